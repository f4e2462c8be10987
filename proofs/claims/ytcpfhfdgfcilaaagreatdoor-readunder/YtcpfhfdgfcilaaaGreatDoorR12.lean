/-
  Several texts in one: An array in memory of its own: its rows lie in blocks of a kind, that may be written; no row's block holds what hangs below it. · An array copied: CopyArray: contract. · Sums over numbers, and how much hangs below a node: plain facts. · What is read of an array that may be is a value that fits its node. · Digits as loops make and read them: plain facts for the walks. · A list of texts that came in, opened: what the walks of the laws over lists of texts are told. Over whatever program. · What the library's functions compute that the program calls, at this seat's numbers: contracts of the library, laid. · What the listed variables of the library hold, and that they hold it still behind whatever leaves old blocks alone. · The library's words for a number's digits and what digits are read as, and ours: plain facts. · A taker in a block; the worlds that a taker's work leads through; isDone, sign, upTo, number, digits, bytes: contracts. · A value's kind and what it has between its signs, by the places of a text: plain facts.
-/
import Derived.WalkKit
import Derived.ProofKit
import Derived.Below
import Derived.OwnWalk
import Derived.Laws.OwnMore
import Derived.Test.YtcpfhfdgfcilaaaGreatDoorR04
import Derived.Test.YtcpfhfdgfcilaaaGreatDoorR11
import Derived.Test.YtcpfhfdgfcilaaaGreatDoorR02
import Derived.Maps.AppendAt
import Derived.OneCell
import Derived.Test.YtcpfhfdgfcilaaaGreatDoorR01
import Derived.Test.YtcpfhfdgfcilaaaGreatDoorR03
import Derived.OpenShut
import Derived.ChangeOld
import Derived.SizedLaws
import Derived.SliceStrings
import Derived.Shelf.Strings.Builder1
import Derived.Shelf.Strings.OnBuilder
import Derived.Shelf.Small.Strs
import Derived.Shelf.LaysM
import Derived.Shelf.Strconv.Itoa3
import Derived.Shelf.Strconv.Itoa4
import Derived.Shelf.Strconv.Clone
import Derived.Shelf.LaysC
import Derived.Shelf.Strconv.AtoiAll
import Derived.Shelf.Strconv.ParseIntPublic10
import Derived.Shelf.Strconv.ErrVarParseInt
import Derived.Shelf.Strings.Repeat
import Derived.Test.YtcpfhfdgfcilaaaGreatDoorProg
import Derived.Test.YtcpfhfdgfcilaaaGreatDoorRows
import Derived.LaidMore
import Derived.Lib.LaidTab
import Derived.Stop.LaidErr
import Derived.Stop.Joined
import Derived.Lib.Bytealg
import Derived.Lib.ItoaNum
import Derived.Lib.ParseIntBTie
import GoSem.Claim
import GoSem.ClaimJoined
import GoSem.ClaimMapViews
import Derived.JoinedTies
import Derived.KernelRfl
import Derived.RowKit
import Derived.RegionTactic
import Derived.ChangeAlike
import Derived.Deep.QuietTactic
import Derived.BigQuiet
import Derived.WalkSmall
import Derived.Lib.AppendIntMem
import Derived.Lib.AtoiErrMem
namespace Go.Proofs.YtcpfhfdgfcilaaaGreatDoor.Arr
open Go.ChangeShapes Go.WideShapes Go.ChangeAt Go.RowKit

/-- These cells are an array's, in memory of its own. -/
def HoldsO (B : Nat) (w : World) : Nat → (Nat → Prop) → List Value → Arr → Prop
  | 0, _, _, _ => False
  | f + 1, ok, cs, a => ∃ (o : Option Addr) (cap : Nat), cs = a.cells o cap ∧ a.ok B ∧ a.kids.length ≤ cap ∧ cap ≤ maxLen ∧
      (o = none ∧ a.kids = [] ∧ cap = 0 ∨ ∃ g cur, o = some ⟨g, 0, none⟩ ∧ ok g ∧ w.heap[g]? = some (.cells cur 27 (0, 0)) ∧ cur.size = cap * 7 ∧
        ∀ i, i < a.kids.length → ∃ cs', cs'.length = 7 ∧ (∀ j, j < 7 → cur[i * 7 + j]? = cs'[j]?) ∧ HoldsO B w f (fun b => ok b ∧ b ≠ g) cs' (a.kids.getD i nil))
/-- A bound of what a copy's rows take. -/
def upB (B : Nat) : Nat := maxLen * 96 + B
theorem Arr.ok.up {B B' : Nat} (hB : B ≤ B') {a : Arr} (h : a.ok B) : a.ok B' := ⟨h.layout, h.offset, h.length, Nat.le_trans h.valid hB, Nat.le_trans h.ends hB, Nat.le_trans h.data hB⟩
theorem add0 (g k : Nat) : (⟨g, 0, none⟩ : Addr).add k = ⟨g, k, none⟩ := by
  simp [Addr.add]
  exact Eq.symm
theorem HoldsO.holds {B : Nat} {w : World} : ∀ {f : Nat} {ok : Nat → Prop} {cs : List Value} {a : Arr}, HoldsO B w f ok cs a → HoldsF (upB B) 96 w f cs a := by
  intro f
  induction f with
  | zero => intro ok cs a h; cases h
  | succ f ih =>
    rintro ok cs a ⟨o, cap, h1, h2, h3, h4, h5⟩
    refine ⟨o, cap, h1, h2.up (by unfold upB; omega), h3, ?_, h4, h5.imp id ?_⟩
    · unfold upB
      have := Nat.mul_le_mul_right 96 h4
      omega
    rintro ⟨g, cur, e, _, hg, _, hx⟩
    refine ⟨_, e, fun i hi => ?_⟩
    obtain ⟨cs', hl, hc, hh⟩ := hx i hi
    refine ⟨cs', hl, fun j hj => ?_, ih hh⟩
    rw [add0, ← hc j hj]
    simp [World.cell?, hg]
/-- It stays where its blocks stay. -/
theorem HoldsO.stays {B : Nat} {w w' : World} : ∀ {f : Nat} {ok ok' : Nat → Prop} {cs : List Value} {a : Arr}, (∀ b, ok b → w'.heap[b]? = w.heap[b]?) → (∀ b, ok b → ok' b) → HoldsO B w f ok cs a → HoldsO B w' f ok' cs a := by
  intro f
  induction f with
  | zero => intro ok ok' cs a _ _ h; cases h
  | succ f ih =>
    rintro ok ok' cs a hb hk ⟨o, cap, h1, h2, h3, h4, h5⟩
    refine ⟨o, cap, h1, h2, h3, h4, h5.imp id ?_⟩
    rintro ⟨g, cur, e, hg0, hg, hs, hx⟩
    refine ⟨g, cur, e, hk _ hg0, (hb _ hg0).trans hg, hs, fun i hi => ?_⟩
    obtain ⟨cs', hl, hc, hh⟩ := hx i hi
    exact ⟨cs', hl, hc, ih (fun b h => hb b h.1) (fun b h => ⟨hk b h.1, h.2⟩) hh⟩
theorem HoldsO.more {B : Nat} {w : World} : ∀ {f : Nat} {ok : Nat → Prop} {cs : List Value} {a : Arr}, HoldsO B w f ok cs a → HoldsO B w (f + 1) ok cs a := by
  intro f
  induction f with
  | zero => intro ok cs a h; cases h
  | succ f ih =>
    rintro ok cs a ⟨o, cap, h1, h2, h3, h4, h5⟩
    refine ⟨o, cap, h1, h2, h3, h4, h5.imp id ?_⟩
    rintro ⟨g, cur, e, hg0, hg, hs, hx⟩
    refine ⟨g, cur, e, hg0, hg, hs, fun i hi => ?_⟩
    obtain ⟨cs', hl, hc, hh⟩ := hx i hi
    exact ⟨cs', hl, hc, ih hh⟩
/-- The blocks that it reads lie in the world. -/
theorem HoldsO.lt {B : Nat} {w : World} : ∀ {f : Nat} {ok : Nat → Prop} {cs : List Value} {a : Arr}, HoldsO B w f ok cs a → HoldsO B w f (fun b => ok b ∧ b < w.heap.size) cs a := by
  intro f
  induction f with
  | zero => intro ok cs a h; cases h
  | succ f ih =>
    rintro ok cs a ⟨o, cap, h1, h2, h3, h4, h5⟩
    refine ⟨o, cap, h1, h2, h3, h4, h5.imp id ?_⟩
    rintro ⟨g, cur, e, hg0, hg, hs, hx⟩
    have hlt : g < w.heap.size := (Array.getElem?_eq_some_iff.1 hg).1
    refine ⟨g, cur, e, ⟨hg0, hlt⟩, hg, hs, fun i hi => ?_⟩
    obtain ⟨cs', hl, hc, hh⟩ := hx i hi
    exact ⟨cs', hl, hc, (ih hh).stays (fun b _ => rfl) (fun b h => ⟨⟨h.1.1, h.2⟩, h.1.2⟩)⟩
theorem HoldsF.up {B B' bytes : Nat} (hB : B ≤ B') {w : World} : ∀ {f : Nat} {cs : List Value} {a : Arr}, HoldsF B bytes w f cs a → HoldsF B' bytes w f cs a := by
  intro f
  induction f with
  | zero => intro cs a h; cases h
  | succ f ih =>
    rintro cs a ⟨o, cap, h1, h2, h3, h4, h5, h6⟩
    refine ⟨o, cap, h1, h2.up hB, h3, Nat.le_trans h4 hB, h5, h6.imp id ?_⟩
    rintro ⟨x, e, hx⟩
    refine ⟨x, e, fun i hi => ?_⟩
    obtain ⟨cs', hl, hc, hh⟩ := hx i hi
    exact ⟨cs', hl, hc, ih hh⟩

/-- The rows that are copied so far. -/
structure Copied (B f : Nat) (a : Arr) (b0 : Nat) (k : Nat) (v : Value) (wr : World) (css : List (List Value)) : Prop where
  len : css.length = k
  own : wr.ownsRow b0 27 7 v k css.flatten
  each : ∀ i, i < k → (css.getD i []).length = 7 ∧ HoldsO B wr f (fun b => b0 ≤ b ∧ b < wr.heap.size ∧ some b ≠ v.ownBlock) (css.getD i []) (kidAt a i)
theorem ownsRow_len {w : World} {base e size n : Nat} {v : Value} {xs : List Value} (h : w.ownsRow base e size v n xs) : ∃ o cap, v = .slice o n cap := by
  rcases h.2 with ⟨rfl, rfl⟩ | ⟨g, cap, cur, rfl, _⟩
  · exact ⟨_, _, rfl⟩
  · exact ⟨_, _, rfl⟩
theorem flatten_at : ∀ (css : List (List Value)) (i j : Nat), (∀ k, k < css.length → (css.getD k []).length = 7) → i < css.length → j < 7 → css.flatten[i * 7 + j]? = (css.getD i [])[j]?
  | [], i, j, _, hi, _ => by simp at hi
  | c :: css, 0, j, h, _, hj => by
    have h0 : c.length = 7 := by simpa using h 0 (by simp)
    rw [List.flatten_cons, List.getElem?_append_left (by omega)]
    simp
  | c :: css, i + 1, j, h, hi, hj => by
    have h0 : c.length = 7 := by simpa using h 0 (by simp)
    rw [List.flatten_cons, List.getElem?_append_right (by omega), show (i + 1) * 7 + j - c.length = i * 7 + j from by omega]
    rw [flatten_at css i j (fun k hk => by simpa using h (k + 1) (by simpa using hk)) (by simpa using hi) hj]
    simp
/-- One more. -/
theorem Copied.step {B f : Nat} {a : Arr} {b0 k : Nat} {v : Value} {wr w4 w5 : World} {css : List (List Value)} {cs : List Value} {v' : Value} (h : Copied B f a b0 k v wr css) (hw : b0 ≤ wr.heap.size) (h4 : Below wr.heap.size wr w4) (hl : cs.length = 7)
    (hn : HoldsO B w4 f (fun b => wr.heap.size ≤ b ∧ b < w4.heap.size) cs (kidAt a k)) (hown : w5.ownsRow b0 27 7 v' (k + 1) (css.flatten ++ cs)) (hgrow : w4.grownBy w5 v.ownBlock) {n5 : Nat} (hn5 : w4.heap.size ≤ n5) (hblk : v'.ownBlock = v.ownBlock ∨ v'.ownBlock = some n5) : Copied B f a b0 (k + 1) v' w5 (css ++ [cs]) := by
  have hb := fun b => h.own.lt b
  refine ⟨by simp [h.len], by simpa using hown, fun i hi => ?_⟩
  have hs4 := h4.size
  have hs5 := hgrow.size
  by_cases hik : i < k
  · obtain ⟨e1, e2⟩ := h.each i hik
    have e : (css ++ [cs]).getD i [] = css.getD i [] := by
      rw [List.getD_eq_getElem?_getD, List.getD_eq_getElem?_getD, List.getElem?_append_left (by rw [h.len]; exact hik)]
    rw [e]
    refine ⟨e1, e2.stays (fun b hb => ?_) (fun b hb => ⟨hb.1, by omega, ?_⟩)⟩
    · rw [hgrow.block b (by omega) (fun c => hb.2.2 c), h4.block b hb.2.1]
    · rcases hblk with c | c
      · rw [c]; exact hb.2.2
      · rw [c]
        intro c
        injection c with c
        omega
  · obtain rfl : i = k := by omega
    have e : (css ++ [cs]).getD i [] = cs := by
      rw [List.getD_eq_getElem?_getD, List.getElem?_append_right (by rw [h.len]; exact Nat.le_refl _), h.len]
      simp
    rw [e]
    refine ⟨hl, hn.stays (fun b hb' => ?_) (fun b hb' => ⟨by omega, by omega, ?_⟩)⟩
    · refine hgrow.block b hb'.2 (fun c => ?_)
      have := (hb b c.symm).2
      omega
    · rcases hblk with c | c
      · rw [c]
        intro c'
        have := (hb b c'.symm).2
        omega
      · rw [c]
        intro c
        injection c with c
        omega
/-- All of them: an array of one's own. -/
theorem Copied.done {B f : Nat} {a : Arr} {b0 : Nat} {o : Option Addr} {cap : Nat} {wr w5 : World} {css : List (List Value)} (h : Copied B f a b0 a.kids.length (.slice o a.kids.length cap) wr css) (ha : a.ok B) (hb : ∀ b, b0 ≤ b → b < wr.heap.size → w5.heap[b]? = wr.heap[b]?) : HoldsO B w5 (f + 1) (fun b => b0 ≤ b) (a.cells o cap) a := by
  rcases h.own.2 with ⟨e, e0⟩ | ⟨g, cap', cur, e, hg0, hg, hn, hm, hs, hx⟩
  · injection e with e1 e2 e3
    subst e1 e3
    have hk : a.kids = [] := List.length_eq_zero_iff.1 e0
    exact ⟨none, 0, rfl, ha, by rw [hk]; exact Nat.le_refl _, Nat.zero_le _, .inl ⟨rfl, hk, rfl⟩⟩
  · injection e with e1 e2 e3
    subst e1 e3
    have hlt : g < wr.heap.size := (Array.getElem?_eq_some_iff.1 hg).1
    refine ⟨_, _, rfl, ha, hn, hm, .inr ⟨g, cur, rfl, hg0, (hb g hg0 hlt).trans hg, hs, fun i hi => ?_⟩⟩
    obtain ⟨e1, e2⟩ := h.each i hi
    refine ⟨css.getD i [], e1, fun j hj => ?_, e2.stays (fun b hb' => hb b hb'.1 hb'.2.1) (fun b hb' => ⟨hb'.1, fun c => hb'.2.2 (by rw [c]; rfl)⟩)⟩
    rw [← flatten_at css i j (fun k hk => (h.each k (by rw [h.len] at hk; exact hk)).1) (by rw [h.len]; exact hi) hj, ← hx]
    rw [List.getElem?_take, if_pos (by omega)]
    simp
end Go.Proofs.YtcpfhfdgfcilaaaGreatDoor.Arr
namespace Go.Proofs.YtcpfhfdgfcilaaaGreatDoor.Arr
open Go.ChangeShapes Go.WideShapes Go.ChangeAt Go.RowKit
open Tree Val

theorem ownsRow_grown {w w' : World} {base e size n : Nat} {v : Value} {xs : List Value} (h : w.ownsRow base e size v n xs) (hb : Below w.heap.size w w') : w'.ownsRow base e size v n xs := by
  refine ⟨h.1, h.2.imp id ?_⟩
  rintro ⟨g, cap, cur, e1, e2, e3, e4⟩
  exact ⟨g, cap, cur, e1, e2, (hb.block g (Array.getElem?_eq_some_iff.1 e3).1).trans e3, e4⟩
/-- A block's cells, one of them written. -/
theorem blk_set {w : World} {g : Nat} {cs : Array Value} {t : TypeId} {fz : Nat × Nat} (h : w.heap[g]? = some (.cells cs t fz)) (j : Nat) (u : Value) : (w.setCell ⟨g, j, none⟩ u).heap[g]? = some (.cells (cs.setIfInBounds j u) t fz) := by
  simp [World.setCell, Array.getElem?_modify, h]
/-- An array's box, written over. -/
theorem set7 {w : World} {g : Nat} {a0 : Arr} {o0 : Option Addr} {cap0 : Nat} (h : Bx w g a0 o0 cap0) (a : Arr) (o : Option Addr) (cap : Nat) :
    ∃ w', ((((((w.setCell ⟨g, 0, none⟩ (.int .i64 a.layout)).setCell ⟨g, 1, none⟩ (.int .i64 a.offset)).setCell ⟨g, 2, none⟩ (.int .i64 a.length)).setCell ⟨g, 3, none⟩ (.string a.valid)).setCell ⟨g, 4, none⟩ (.string a.ends)).setCell ⟨g, 5, none⟩ (.string a.data)).setCell ⟨g, 6, none⟩ (.slice o a.kids.length cap) = w' ∧
      Bx w' g a o cap ∧ (∀ b, b ≠ g → w'.heap[b]? = w.heap[b]?) ∧ (∀ B, B ≤ g → Below B w w') := by
  refine ⟨_, rfl, ⟨?_⟩, fun b hb => ?_, fun B hB => ?_⟩
  · rw [blk_set (blk_set (blk_set (blk_set (blk_set (blk_set (blk_set h.blk 0 _) 1 _) 2 _) 3 _) 4 _) 5 _) 6 _]
    rfl
  · have q := fun (w : World) (j : Nat) (u : Value) => Below.heap_setCell w ⟨g, j, none⟩ u b hb
    rw [q, q, q, q, q, q, q]
  · exact (((((((Below.refl _ _).setCell hB _).setCell hB _).setCell hB _).setCell hB _).setCell hB _).setCell hB _).setCell hB _
end Go.Proofs.YtcpfhfdgfcilaaaGreatDoor.Arr
namespace Go.Proofs.YtcpfhfdgfcilaaaGreatDoor.Sums
open Tree

def sumTo (g : Nat → Nat) : Nat → Nat
  | 0 => 0
  | k + 1 => sumTo g k + g k
theorem sumTo_le {g h : Nat → Nat} : ∀ k, (∀ j, j < k → g j ≤ h j) → sumTo g k ≤ sumTo h k
  | 0, _ => Nat.le_refl _
  | k + 1, hh => Nat.add_le_add (sumTo_le k fun j hj => hh j (by omega)) (hh k (by omega))
theorem sumTo_congr {g h : Nat → Nat} (k : Nat) (hh : ∀ j, j < k → g j = h j) : sumTo g k = sumTo h k :=
  Nat.le_antisymm (sumTo_le k fun j hj => Nat.le_of_eq (hh j hj)) (sumTo_le k fun j hj => Nat.le_of_eq (hh j hj).symm)
theorem sumTo_add (g h : Nat → Nat) : ∀ k, sumTo (fun j => g j + h j) k = sumTo g k + sumTo h k
  | 0 => rfl
  | k + 1 => by
    rw [sumTo, sumTo, sumTo, sumTo_add g h k]
    omega
theorem sumTo_mono (g : Nat → Nat) {k : Nat} : ∀ {m : Nat}, k ≤ m → sumTo g k ≤ sumTo g m := by
  intro m
  induction m with
  | zero =>
    intro h
    obtain rfl : k = 0 := by omega
    exact Nat.le_refl _
  | succ m ih =>
    intro h
    by_cases c : k = m + 1
    · rw [c]; exact Nat.le_refl _
    · exact Nat.le_trans (ih (by omega)) (Nat.le_add_right _ _)
theorem sumTo_term (g : Nat → Nat) {i k : Nat} (h : i < k) : g i ≤ sumTo g k := by
  have := sumTo_mono g (show i + 1 ≤ k from h)
  rw [sumTo] at this
  omega
theorem sumTo_zero : ∀ k, sumTo (fun _ => 0) k = 0
  | 0 => rfl
  | k + 1 => by rw [sumTo, sumTo_zero k]
theorem sumTo_const (c : Nat) : ∀ k, sumTo (fun _ => c) k = c * k
  | 0 => rfl
  | k + 1 => by rw [sumTo, sumTo_const c k, Nat.mul_succ]
theorem sumTo_single (i c : Nat) : ∀ k, i < k → sumTo (fun j => if j = i then c else 0) k = c
  | 0, h => absurd h (Nat.not_lt_zero _)
  | k + 1, h => by
    rw [sumTo]
    by_cases e : i = k
    · subst e
      rw [if_pos rfl, sumTo_congr (h := fun _ => 0) i (fun j hj => if_neg (by omega)), sumTo_zero]
      omega
    · rw [sumTo_single i c k (by omega), if_neg (by omega)]
      rfl
theorem sumTo_shift (g : Nat → Nat) (p : Nat) : ∀ k, sumTo (fun j => g (p + j)) k + sumTo g p = sumTo g (p + k)
  | 0 => by rw [sumTo, Nat.zero_add]; rfl
  | k + 1 => by
    have := sumTo_shift g p k
    rw [sumTo, show p + (k + 1) = (p + k) + 1 from rfl, sumTo]
    omega
theorem sumTo_swap (g : Nat → Nat → Nat) (m : Nat) : ∀ k, sumTo (fun i => sumTo (g i) m) k = sumTo (fun j => sumTo (fun i => g i j) k) m
  | 0 => by
    rw [sumTo, sumTo_congr (g := fun j => sumTo (fun i => g i j) 0) (h := fun _ => 0) m (fun j _ => rfl), sumTo_zero]
  | k + 1 => by
    rw [sumTo, sumTo_swap g m k, ← sumTo_add]
    exact sumTo_congr m (fun j _ => rfl)
/-- The lengths of texts one behind the other. -/
theorem length_flat (g : Nat → List UInt8) : ∀ k, ((List.range k).map g).flatten.length = sumTo (fun j => (g j).length) k
  | 0 => rfl
  | k + 1 => by
    rw [List.range_succ, List.map_append, List.flatten_append, List.length_append, length_flat g k]
    simp [sumTo]
/-- What hangs below a node: so much for each. -/
def hangF (c : Nat) (ns : List Nd) (i : Nat) (g : Nat → Nat) : Nat := c + sumTo (fun j => if 1 ≤ j ∧ (nd ns j).par = ((ns.length - 1 - i : Nat) : Int) then g (ns.length - 1 - j) else 0) ns.length
def hang (c : Nat) (ns : List Nd) (n : Nat) : Nat := row (hangF c ns) (ns.length - 1 - n)
theorem hang_eq {ns : List Nd} (h : May ns) (c : Nat) {n : Nat} (hn : n < ns.length) : hang c ns n = c + sumTo (fun j => if 1 ≤ j ∧ (nd ns j).par = (n : Int) then hang c ns j else 0) ns.length := by
  unfold hang
  rw [row_eq, hangF]
  congr 1
  refine sumTo_congr _ fun j hj => ?_
  rw [show ns.length - 1 - (ns.length - 1 - n) = n from by omega]
  by_cases e : 1 ≤ j ∧ (nd ns j).par = (n : Int)
  · rw [if_pos e, if_pos e]
    have := h.par j e.1 hj
    rw [tab_at _ _ _ (by omega)]
  · rw [if_neg e, if_neg e]
theorem sum_kids (ns : List Nd) (g : Nat → Nat) (a : Int) : ∀ k, ((kidsTo ns a k).map g).sum = sumTo (fun j => if 1 ≤ j ∧ (nd ns j).par = a then g j else 0) k
  | 0 => rfl
  | k + 1 => by
    rw [kidsTo, sumTo, ← sum_kids ns g a k]
    by_cases e : 1 ≤ k ∧ (nd ns k).par = a
    · rw [if_pos e, if_pos e, List.map_append, List.sum_append]
      simp
    · rw [if_neg e, if_neg e]
      rfl
theorem hang_kids {ns : List Nd} (h : May ns) (c : Nat) {n : Nat} (hn : n < ns.length) : hang c ns n = c + ((kids ns n).map (hang c ns)).sum := by
  rw [hang_eq h c hn]
  unfold kids
  rw [sum_kids]
/-- What hangs from i on, whose parent lies ahead of i. -/
def front (c : Nat) (ns : List Nd) (i : Nat) : Nat := sumTo (fun j => if i ≤ j ∧ (nd ns j).par < (i : Int) then hang c ns j else 0) ns.length
theorem May.before {ns : List Nd} (h : May ns) {i : Nat} (hi : i < ns.length) : (nd ns i).par < (i : Int) := by
  by_cases e : i = 0
  · subst e
    have := h.first
    omega
  · exact (h.par i (by omega) hi).2
theorem front_step {ns : List Nd} (h : May ns) (c : Nat) {i : Nat} (hi : i < ns.length) : front c ns i = front c ns (i + 1) + c := by
  have e : front c ns i + sumTo (fun j => if 1 ≤ j ∧ (nd ns j).par = (i : Int) then hang c ns j else 0) ns.length = front c ns (i + 1) + sumTo (fun j => if j = i then hang c ns i else 0) ns.length := by
    unfold front
    rw [← sumTo_add, ← sumTo_add]
    refine sumTo_congr _ fun j hj => ?_
    have hb := May.before h hj
    by_cases e1 : j = i
    · subst e1
      rw [if_pos ⟨Nat.le_refl _, hb⟩, if_neg (fun q => by omega), if_neg (fun q => by omega), if_pos rfl]
      omega
    · rw [if_neg e1]
      by_cases e2 : j < i
      · rw [if_neg (fun q => by omega), if_neg (fun q => by omega), if_neg (fun q => by omega)]
      · by_cases e3 : (nd ns j).par < (i : Int)
        · rw [if_pos ⟨by omega, e3⟩, if_neg (fun q => by omega), if_pos ⟨by omega, by omega⟩]
        · by_cases e4 : (nd ns j).par = (i : Int)
          · rw [if_neg (fun q => by omega), if_pos ⟨by omega, e4⟩, if_pos ⟨by omega, by omega⟩]
            omega
          · rw [if_neg (fun q => by omega), if_neg (fun q => by omega), if_neg (fun q => by omega)]
  rw [sumTo_single i (hang c ns i) ns.length hi, hang_eq h c hi] at e
  omega
theorem front_is {ns : List Nd} (h : May ns) (c : Nat) : ∀ k i, i + k = ns.length → front c ns i = c * k
  | 0, i, hk => by
    unfold front
    rw [sumTo_congr (h := fun _ => 0) ns.length (fun j hj => if_neg (fun q => by omega)), sumTo_zero]
    rfl
  | k + 1, i, hk => by
    rw [front_step h c (by omega), front_is h c k (i + 1) (by omega), Nat.mul_succ]
/-- So much hangs below a node, with it, at most. -/
theorem hang_le {ns : List Nd} (h : May ns) (c : Nat) {n : Nat} (hn : n < ns.length) : hang c ns n ≤ c * 8 := by
  have h1 : hang c ns n ≤ front c ns n := by
    have := sumTo_term (fun j => if n ≤ j ∧ (nd ns j).par < (n : Int) then hang c ns j else 0) hn
    rw [if_pos ⟨Nat.le_refl _, May.before h hn⟩] at this
    exact this
  rw [front_is h c (ns.length - n) n (by omega)] at h1
  have h8 := h.most
  exact Nat.le_trans h1 (Nat.mul_le_mul_left c (by omega))
end Go.Proofs.YtcpfhfdgfcilaaaGreatDoor.Sums
namespace Go.Proofs.YtcpfhfdgfcilaaaGreatDoor.Arr
open Tree Val Sums

theorem signed_in (x : Nat) (h : x < 18446744073709551616) : in64 (signed x) := by
  unfold signed in64
  split <;> omega
theorem length_intM (x : Int) (h : in64 x) : (intM x).length ≤ 22 := by
  have := length_intD x h
  simp [intM]
  omega
theorem length_boolM (b : Bool) : (boolM b).length = 1 := by cases b <;> rfl
theorem length_bytesM (s : List UInt8) (h : s.length ≤ 16) : (bytesM s).length ≤ 22 := by
  have h1 : (dig s.length).length ≤ 2 := length_dig_le 1 s.length (by omega) (by omega)
  simp [bytesM]
  omega
theorem length_listM (vs : List (List UInt8)) : (listM vs).length = vs.flatten.length + 2 := by simp [listM]
theorem length_structM (vs : List (List UInt8)) : (structM vs).length = vs.flatten.length + 2 := by simp [structM]
theorem kinds {ns : List Nd} (h : May ns) {n : Nat} (hn : n < ns.length) : (nd ns n).kind = 0 ∨ (nd ns n).kind = 1 ∨ (nd ns n).kind = 2 ∨ (nd ns n).kind = 3 ∨ (nd ns n).kind = 4 := by
  have := h.kind n hn
  omega
theorem length_part (s : ByteArray) (a b : Nat) (hb : b ≤ s.size) : (part s a b).length = b - a := by
  unfold part
  rw [List.length_drop, List.length_take, bl_length, Nat.min_eq_left hb]
/-- A leaf's plain row: its text is short, and a value. -/
theorem leaf_plain {ns : List Nd} {n : Nat} {a : Arr} {rec : Nat → Arr → Bool} {rd : Nat → Arr → Nat → List UInt8} (hh : Head ns n a) (hp : plainB rec ns n a = true) (hk : (nd ns n).kind = 0 ∨ (nd ns n).kind = 1 ∨ (nd ns n).kind = 2) {row : Nat} (hr : (row : Int) < a.length) (d : Nat) :
    (plainRow rd ns n a (row + a.offset.toNat)).length ≤ 22 ∧ val d (plainRow rd ns n a (row + a.offset.toNat)) = some (plainRow rd ns n a (row + a.offset.toNat)).length ∧
    ∃ ps, partsM (plainRow rd ns n a (row + a.offset.toNat)) = some ((nd ns n).kind, ps) ∧ ((nd ns n).kind = 2 → (ps.getD 0 []).length ≤ 16 ∧ ps ≠ []) := by
  have ho := hh.off
  unfold plainRow plainB at *
  rcases hk with e | e | e
  · have hx := Plain.val_lt (bl a.data) (8 * (row + a.offset.toNat)) 8
    rw [show 256 ^ 8 = 18446744073709551616 from rfl] at hx
    have h64 := signed_in _ hx
    rw [if_pos e]
    refine ⟨length_intM _ h64, val_int d _ h64, _, by rw [e]; exact parts_int _ h64, fun c => ?_⟩
    rw [e] at c
    cases c
  · rw [if_neg (by omega), if_pos e]
    refine ⟨by rw [length_boolM]; omega, val_bool d _, _, by rw [e]; exact parts_bool _, fun c => ?_⟩
    rw [e] at c
    cases c
  · rw [if_neg (by omega), if_neg (by omega), if_pos e] at hp ⊢
    rw [Bool.and_eq_true] at hp
    have hE := endsB_ends hp.2
    have h1 := hE.apart (row + a.offset.toNat) (by unfold rowsOf; omega) (by omega)
    have h2 := hE.last (row + a.offset.toNat + 1) (by unfold rowsOf; omega)
    have hl := length_part a.data (endAt a.ends (row + a.offset.toNat)) (endAt a.ends (row + a.offset.toNat + 1)) (by omega)
    have h16 : (part a.data (endAt a.ends (row + a.offset.toNat)) (endAt a.ends (row + a.offset.toNat + 1))).length ≤ 16 := by omega
    generalize part a.data (endAt a.ends (row + a.offset.toNat)) (endAt a.ends (row + a.offset.toNat + 1)) = q at h16 ⊢
    have hb := length_bytesM _ h16
    have hv : q.length ≤ 9223372036854775807 := by omega
    have hp : (bytesM q).length ≤ 65536 := by omega
    exact ⟨hb, val_bytes d q hv, [q], by rw [e]; exact parts_bytes q hp, fun _ => ⟨by rw [List.getD_cons_zero]; exact h16, List.cons_ne_nil _ _⟩⟩
/-- A leaf's row, however it is laid down. -/
theorem leaf_row {ns : List Nd} {n : Nat} (hk : (nd ns n).kind = 0 ∨ (nd ns n).kind = 1 ∨ (nd ns n).kind = 2) : ∀ (f : Nat) (a : Arr), mayF ns f n a = true → ∀ (row : Nat), (row : Int) < a.length → ∀ d,
    (rowF ns f n a row).length ≤ 22 ∧ val d (rowF ns f n a row) = some (rowF ns f n a row).length ∧
    (rowF ns f n a row = nullM ∧ (nd ns n).null = true ∨ ∃ ps, partsM (rowF ns f n a row) = some ((nd ns n).kind, ps) ∧ ((nd ns n).kind = 2 → (ps.getD 0 []).length ≤ 16 ∧ ps ≠ [])) := by
  intro f
  induction f with
  | zero => intro a h; cases h
  | succ f ih =>
    intro a h row hr d
    obtain ⟨hh, hc⟩ := mayF_cases h
    rw [rowF]
    cases ht : there a (row + a.offset.toNat) with
    | false =>
      rw [if_pos rfl]
      refine ⟨by decide, val_null d, .inl ⟨rfl, ?_⟩⟩
      unfold there at ht
      rw [Bool.or_eq_false_iff, decide_eq_false_iff_not] at ht
      rcases hh.null with c | c
      · exact absurd c ht.1
      · exact c.1
    | true =>
      rw [if_neg (by decide)]
      rcases hc with ⟨hl, hp⟩ | ⟨hl, _, _, _, hm, hd⟩
      · rw [if_pos hl]
        obtain ⟨h1, h2, h3⟩ := leaf_plain (rd := rowF ns f) hh hp hk hr d
        exact ⟨h1, h2, .inr h3⟩
      · rw [if_neg hl]
        rcases hd with ⟨e, hd⟩ | ⟨e, hd⟩
        · rw [if_pos e]
          exact ih (kidAt a 0) hm _ (dict_row hh hd hr ht) d
        · rw [if_neg (by omega)]
          exact ih (kidAt a 0) hm _ (run_row hh hd hr) d
/-- A nest's array is laid down plainly. -/
theorem nest_plain {ns : List Nd} {n f : Nat} {a : Arr} (hk : (nd ns n).kind = 3 ∨ (nd ns n).kind = 4) (h : mayF ns (f + 1) n a = true) : Head ns n a ∧ a.layout = 0 ∧ plainB (mayF ns f) ns n a = true := by
  obtain ⟨hh, ⟨h1, h2⟩ | ⟨_, h2, _⟩⟩ := mayF_cases h
  · exact ⟨hh, h1, h2⟩
  · unfold Tree.isLeaf at h2
    rw [decide_eq_true_eq] at h2
    omega
structure IsList (ns : List Nd) (f n : Nat) (a : Arr) : Prop where
  may : mayF ns f (kAt ns n 0) (kidAt a 0) = true
  ends : Ends a.ends (rowsOf a) a.offset (kidAt a 0).length 2147483647
structure IsStruct (ns : List Nd) (f n : Nat) (a : Arr) : Prop where
  may : ∀ i, i < (kids ns n).length → mayF ns f (kAt ns n i) (kidAt a i) = true
  rows : ∀ i, i < (kids ns n).length → (rowsOf a : Int) ≤ (kidAt a i).length
theorem list_of {ns : List Nd} {n f : Nat} {a : Arr} (hk : (nd ns n).kind = 3) (h : plainB (mayF ns f) ns n a = true) : IsList ns f n a := by
  unfold plainB at h
  rw [if_neg (by omega), if_neg (by omega), if_neg (by omega), if_pos hk] at h
  simp only [Bool.and_eq_true] at h
  exact ⟨h.1.2, endsB_ends h.2⟩
theorem struct_of {ns : List Nd} {n f : Nat} {a : Arr} (hk : (nd ns n).kind = 4) (h : plainB (mayF ns f) ns n a = true) : IsStruct ns f n a := by
  unfold plainB at h
  rw [if_neg (by omega), if_neg (by omega), if_neg (by omega), if_neg (by omega)] at h
  simp only [Bool.and_eq_true, List.all_eq_true, decide_eq_true_eq] at h
  exact ⟨fun i hi => (h.2 i (List.mem_range.2 hi)).1, fun i hi => (h.2 i (List.mem_range.2 hi)).2⟩
theorem kAt_mem {ns : List Nd} {n i : Nat} (h : i < (kids ns n).length) : kAt ns n i ∈ kids ns n := by
  unfold kAt
  rw [List.getD_eq_getElem?_getD, List.getElem?_eq_getElem h]
  exact List.getElem_mem h
theorem kid_of {ns : List Nd} (hm : May ns) {n i : Nat} (h : i < (kids ns n).length) : n < kAt ns n i ∧ kAt ns n i < ns.length ∧ depth ns (kAt ns n i) = depth ns n + 1 := by
  have hk := hm.kid (kAt_mem h)
  refine ⟨hk.1, hk.2.1, ?_⟩
  rw [hm.depth_up (by omega) hk.2.1, hk.2.2, Int.toNat_natCast]
theorem sum_getD (g : Nat → Nat) : ∀ (ks : List Nat), (ks.map g).sum = sumTo (fun i => g (ks.getD i 0)) ks.length
  | [] => rfl
  | k :: ks => by
    have h := sumTo_shift (fun i => g ((k :: ks).getD i 0)) 1 ks.length
    rw [List.map_cons, List.sum_cons, sum_getD g ks, List.length_cons, Nat.add_comm ks.length 1, ← h]
    have e : sumTo (fun i => g ((k :: ks).getD i 0)) 1 = g k := by
      show 0 + g k = g k
      omega
    rw [e, Nat.add_comm]
    congr 1
    refine sumTo_congr _ fun j _ => ?_
    rw [Nat.add_comm 1 j]
    rfl
theorem sum_kAt (ns : List Nd) (n : Nat) (g : Nat → Nat) : ((kids ns n).map g).sum = sumTo (fun i => g (kAt ns n i)) (kids ns n).length := sum_getD g (kids ns n)
end Go.Proofs.YtcpfhfdgfcilaaaGreatDoor.Arr
namespace Go.Proofs.YtcpfhfdgfcilaaaGreatDoor.Val

/-- A loop that lays digits ahead of others: what is still to come, and what stands there. -/
def DigAt (n size : Nat) (out : List UInt8) : Prop := (out = [] ∧ size = n) ∨ (out ≠ [] ∧ size = 0 ∧ out = dig n) ∨ (out ≠ [] ∧ 0 < size ∧ size ≤ n ∧ dig size ++ out = dig n)
theorem DigAt.start (n : Nat) : DigAt n n [] := .inl ⟨rfl, rfl⟩
theorem DigAt.step {n size : Nat} {out : List UInt8} (hn : n < 10 ^ 20) (h : DigAt n size out) (hs : 0 < size ∨ out = []) : DigAt n (size / 10) (UInt8.ofNat (48 + size % 10) :: out) := by
  have key : dig size ++ out = dig n ∧ size ≤ n := by
    rcases h with ⟨rfl, rfl⟩ | ⟨h1, h2, _⟩ | ⟨_, _, h3, h4⟩
    · exact ⟨List.append_nil _, Nat.le_refl _⟩
    · rcases hs with c | c
      · omega
      · exact absurd c h1
    · exact ⟨h4, h3⟩
  obtain ⟨k1, k2⟩ := key
  by_cases c : size < 10
  · refine .inr (.inl ⟨List.cons_ne_nil _ _, by omega, ?_⟩)
    rw [← k1, dig_low size c, Nat.mod_eq_of_lt c]
    rfl
  · refine .inr (.inr ⟨List.cons_ne_nil _ _, by omega, by omega, ?_⟩)
    rw [← k1, dig_high size (by omega) (by omega), List.append_assoc]
    rfl
theorem DigAt.stop {n size : Nat} {out : List UInt8} (h : DigAt n size out) (hs : ¬ (0 < size ∨ out = [])) : out = dig n := by
  rcases h with ⟨h1, _⟩ | ⟨_, _, h⟩ | ⟨_, h2, _⟩
  · exact absurd (.inr h1) hs
  · exact h
  · exact absurd (.inl h2) hs
theorem DigAt.length {n size : Nat} {out : List UInt8} (h : DigAt n size out) : out.length ≤ 20 := by
  have hl := length_dig n
  rcases h with ⟨rfl, _⟩ | ⟨_, _, rfl⟩ | ⟨_, _, _, h4⟩
  · exact Nat.zero_le _
  · exact hl
  · rw [← h4, List.length_append] at hl
    omega
end Go.Proofs.YtcpfhfdgfcilaaaGreatDoor.Val
namespace Go.Proofs.YtcpfhfdgfcilaaaGreatDoor.Texts
open Go.ChangeShapes Go.WideShapes Go.ChangeAt Go.RowKit

/-- The texts lie so, a cell each, from a on. -/
def LiesT (w : World) (a : Addr) (ss : List ByteArray) : Prop := ∀ i, i < ss.length → w.cell? (a.add i) = some (.string (ss.getD i ByteArray.empty))
section
variable {H : Type} {enc : TypeId × Value → H} {P : Program} {w : World} {base : Nat} {held : Bool}

end
/-- A list of texts, as a walk meets it. -/
def IsTx (w : World) (o : Option Addr) (ss : List ByteArray) : Prop := ss.length ≤ maxLen ∧ (ss = [] ∨ ∃ x, o = some x ∧ LiesT w x ss)
theorem IsTx.later {w w' : World} {o : Option Addr} {ss : List ByteArray} (h : IsTx w o ss) (hb : Below w.heap.size w w') : IsTx w' o ss :=
  ⟨h.1, h.2.imp id fun ⟨x, e, hl⟩ => ⟨x, e, fun i hi => (hb.cell (World.block_lt_of_cell? _ _ (hl i hi))).trans (hl i hi)⟩⟩
/-- Texts as cells. -/
def cellsT (ss : List ByteArray) : List Value := ss.map Value.string
theorem cellsT_snoc (ss : List ByteArray) (s : ByteArray) : cellsT (ss ++ [s]) = cellsT ss ++ [.string s] := by simp [cellsT]
theorem cellsT_at (ss : List ByteArray) (i : Nat) (h : i < ss.length) : (cellsT ss)[i]? = some (.string (ss.getD i ByteArray.empty)) := by
  unfold cellsT
  rw [List.getElem?_map, List.getElem?_eq_getElem h, List.getD_eq_getElem?_getD, List.getElem?_eq_getElem h]
  rfl
/-- A row of one's own. -/
theorem own_texts {w : World} {b c : Nat} {T : TypeId} {o : Option Addr} {ss : List ByteArray} (h : w.ownsRow b T 1 (.slice o ss.length c) ss.length (cellsT ss)) : IsTx w o ss := by
  rcases h.2 with ⟨h0, h1⟩ | ⟨g, cap, cur, h0, _, _, hle, hm, _⟩
  · exact ⟨by rw [h1]; exact Nat.zero_le _, .inl (List.eq_nil_of_length_eq_zero h1)⟩
  · refine ⟨by omega, .inr ⟨⟨g, 0, none⟩, by injection h0, fun i hi => ?_⟩⟩
    injection h0 with h2 h3 h4
    subst h2 h4
    exact h.cells rfl _ _ (cellsT_at ss i hi)
end Go.Proofs.YtcpfhfdgfcilaaaGreatDoor.Texts
namespace Go.Proofs
open Go.Shelf
def Tryz.lays156_ren : Go.Shelf.Ren := ⟨fun | 156 => 105 | 165 => 163 | 166 => 164 | 169 => 165 | 240 => 204 | 241 => 205 | 276 => 232 | 277 => 233 | n => n, fun | 31 => 29 | 9 => 9 | 3 => 3 | 4 => 4 | 0 => 0 | 20 => 20 | 72 => 172 | 76 => 166 | 70 => 170 | 37 => 42 | 75 => 165 | 127 => 209 | 164 => 232 | 5 => 5 | 80 => 101 | n => n, fun | n => n⟩
theorem Tryz.lays156 : Go.Proofs.Lays.n156 Tryz.prog Tryz.lays156_ren := {
  mixed := by kernel_rfl
  f156 := Tryz.func105.trans (congrArg some (by kernel_rfl))
  f165 := Tryz.func163.trans (congrArg some (by kernel_rfl))
  f166 := Tryz.func164.trans (congrArg some (by kernel_rfl))
  f169 := Tryz.func165.trans (congrArg some (by kernel_rfl))
  f240 := Tryz.func204.trans (congrArg some (by kernel_rfl))
  f241 := Tryz.func205.trans (congrArg some (by kernel_rfl))
  f276 := Tryz.func232.trans (congrArg some (by kernel_rfl))
  f277 := Tryz.func233.trans (congrArg some (by kernel_rfl))
  t0 := Tryz.underlying0
  a0 := Tryz.isAgg0
  z0 := Tryz.sizeOf0
  v0 := Tryz.zeroValue0
  t3 := Tryz.underlying3
  a3 := Tryz.isAgg3
  z3 := Tryz.sizeOf3
  v3 := Tryz.zeroValue3
  t4 := Tryz.underlying4
  a4 := Tryz.isAgg4
  z4 := Tryz.sizeOf4
  v4 := Tryz.zeroValue4
  t9 := Tryz.underlying9
  a9 := Tryz.isAgg9
  z9 := Tryz.sizeOf9
  v9 := Tryz.zeroValue9
  t20 := Tryz.underlying20
  a20 := Tryz.isAgg20
  z20 := Tryz.sizeOf20
  v20 := Tryz.zeroValue20
  t31 := Tryz.underlying29
  a31 := Tryz.isAgg29
  z31 := Tryz.sizeOf29
  v31 := Tryz.zeroValue29
  t37 := Tryz.underlying42
  a37 := Tryz.isAgg42
  z37 := Tryz.sizeOf42
  v37 := Tryz.zeroValue42
  t70 := Tryz.underlying170
  a70 := Tryz.isAgg170
  z70 := Tryz.sizeOf170
  v70 := Tryz.zeroValue170
  t72 := Tryz.underlying172
  a72 := Tryz.isAgg172
  z72 := Tryz.sizeOf172
  v72 := Tryz.zeroValue172
  t75 := Tryz.underlying165
  a75 := Tryz.isAgg165
  z75 := Tryz.sizeOf165
  v75 := Tryz.zeroValue165
  t76 := Tryz.underlying166
  a76 := Tryz.isAgg166
  z76 := Tryz.sizeOf166
  v76 := Tryz.zeroValue166
  t127 := Tryz.underlying209
  a127 := Tryz.isAgg209
  z127 := Tryz.sizeOf209
  v127 := Tryz.zeroValue209
  t164 := Tryz.underlying232
  a164 := Tryz.isAgg232
  z164 := Tryz.sizeOf232
  v164 := Tryz.zeroValue232 }
theorem Tryz.Builder_Extra_156 : Builder.Extra Tryz.prog Tryz.lays156_ren := {
  sizeBuilder := by kernel_rfl
  liesBuilder := by kernel_rfl
  t5 := Tryz.underlying5
  a5 := Tryz.isAgg5
  z5 := Tryz.sizeOf5
  v5 := Tryz.zeroValue5
  infoByte := by kernel_rfl
  cellsByte := by kernel_rfl
  sizeByte := by kernel_rfl
  neB5 := by decide }
open Go.RowKit in
theorem Tryz.strings_Join_none (a : Option Addr) (c : Nat) (sep : ByteArray) (w : World) :
    Calls Tryz.prog 105 #[.slice a 0 c, .string sep] w fun e w' => e = .returned (.string ⟨#[]⟩) ∧ w' = w := Any.strings_Join_none Tryz.lays156 Tryz.Builder_Extra_156 a c sep w
open Go.RowKit in
theorem Tryz.strings_Join (bk o c : Nat) (xs : List ByteArray) (sep : ByteArray) (w : World) (hcells : ∀ (j : Nat) x, xs[j]? = some x → w.cell? ⟨bk, o + j, none⟩ = some (.string x)) (hbk : bk < w.heap.size) (hN : xs.length ≤ 140737488355328) (hcap : xs.length ≤ c) (hlen : (Lib.join (xs.map (·.data.toList)) sep.data.toList).length ≤ 140737488355328) :
    Calls Tryz.prog 105 #[.slice (some ⟨bk, o, none⟩) xs.length c, .string sep] w fun e w' => e = .returned (.string ⟨(Lib.join (xs.map (·.data.toList)) sep.data.toList).toArray⟩) ∧ Below w.heap.size w w' := Any.strings_Join Tryz.lays156 Tryz.Builder_Extra_156 bk o c xs sep w hcells hbk hN hcap hlen
def Tryz.laysM171_ren : Go.Shelf.Ren := ⟨fun | 171 => 180 | 243 => 214 | 246 => 236 | 283 => 243 | 284 => 244 | 285 => 245 | 286 => 246 | 129 => 252 | 317 => 251 | 318 => 253 | 319 => 254 | 320 => 255 | 337 => 259 | 338 => 260 | n => n, fun | 3 => 3 | 9 => 9 | 2 => 2 | 4 => 4 | 171 => 244 | 0 => 0 | 53 => 152 | 37 => 42 | 5 => 5 | 173 => 247 | 212 => 257 | 51 => 227 | 20 => 20 | 213 => 258 | 46 => 43 | 232 => 262 | 233 => 263 | n => n, fun | 17 => 3 | 18 => 4 | 19 => 5 | n => n⟩
theorem Tryz.laysM171 : Go.Proofs.LaysM.n171 Tryz.prog Tryz.laysM171_ren := {
  mixed := by kernel_rfl
  f129 := Tryz.func252.trans (congrArg some (by kernel_rfl))
  f171 := Tryz.func180.trans (congrArg some (by kernel_rfl))
  f243 := Tryz.func214.trans (congrArg some (by kernel_rfl))
  f246 := Tryz.func236.trans (congrArg some (by kernel_rfl))
  f283 := Tryz.func243.trans (congrArg some (by kernel_rfl))
  f284 := Tryz.func244.trans (congrArg some (by kernel_rfl))
  f285 := Tryz.func245.trans (congrArg some (by kernel_rfl))
  f286 := Tryz.func246.trans (congrArg some (by kernel_rfl))
  f317 := Tryz.func251.trans (congrArg some (by kernel_rfl))
  f318 := Tryz.func253.trans (congrArg some (by kernel_rfl))
  f319 := Tryz.func254.trans (congrArg some (by kernel_rfl))
  f320 := Tryz.func255.trans (congrArg some (by kernel_rfl))
  f337 := Tryz.func259.trans (congrArg some (by kernel_rfl))
  f338 := Tryz.func260.trans (congrArg some (by kernel_rfl))
  t0 := Tryz.underlying0
  a0 := Tryz.isAgg0
  z0 := Tryz.sizeOf0
  v0 := Tryz.zeroValue0
  t2 := Tryz.underlying2
  a2 := Tryz.isAgg2
  z2 := Tryz.sizeOf2
  v2 := Tryz.zeroValue2
  t3 := Tryz.underlying3
  a3 := Tryz.isAgg3
  z3 := Tryz.sizeOf3
  v3 := Tryz.zeroValue3
  t4 := Tryz.underlying4
  a4 := Tryz.isAgg4
  z4 := Tryz.sizeOf4
  v4 := Tryz.zeroValue4
  t5 := Tryz.underlying5
  a5 := Tryz.isAgg5
  z5 := Tryz.sizeOf5
  v5 := Tryz.zeroValue5
  t9 := Tryz.underlying9
  a9 := Tryz.isAgg9
  z9 := Tryz.sizeOf9
  v9 := Tryz.zeroValue9
  t20 := Tryz.underlying20
  a20 := Tryz.isAgg20
  z20 := Tryz.sizeOf20
  v20 := Tryz.zeroValue20
  t37 := Tryz.underlying42
  a37 := Tryz.isAgg42
  z37 := Tryz.sizeOf42
  v37 := Tryz.zeroValue42
  t46 := Tryz.underlying43
  a46 := Tryz.isAgg43
  z46 := Tryz.sizeOf43
  v46 := Tryz.zeroValue43
  t51 := Tryz.underlying227
  a51 := Tryz.isAgg227
  z51 := Tryz.sizeOf227
  v51 := Tryz.zeroValue227
  t53 := Tryz.underlying152
  a53 := Tryz.isAgg152
  z53 := Tryz.sizeOf152
  v53 := Tryz.zeroValue152
  t171 := Tryz.underlying244
  a171 := Tryz.isAgg244
  z171 := Tryz.sizeOf244
  v171 := Tryz.zeroValue244
  t173 := Tryz.underlying247
  a173 := Tryz.isAgg247
  z173 := Tryz.sizeOf247
  v173 := Tryz.zeroValue247
  t212 := Tryz.underlying257
  a212 := Tryz.isAgg257
  z212 := Tryz.sizeOf257
  v212 := Tryz.zeroValue257
  t213 := Tryz.underlying258
  a213 := Tryz.isAgg258
  z213 := Tryz.sizeOf258
  t232 := Tryz.underlying262
  a232 := Tryz.isAgg262
  z232 := Tryz.sizeOf262
  v232 := Tryz.zeroValue262
  t233 := Tryz.underlying263
  a233 := Tryz.isAgg263
  z233 := Tryz.sizeOf263
  v233 := Tryz.zeroValue263
  g17 := by kernel_rfl
  g18 := by kernel_rfl
  g19 := by kernel_rfl
  i0 := by kernel_rfl
  i2 := by kernel_rfl
  i3 := by kernel_rfl
  i4 := by kernel_rfl
  i5 := by kernel_rfl
  i9 := by kernel_rfl
  i20 := by kernel_rfl
  i37 := by kernel_rfl
  i46 := by kernel_rfl
  i51 := by kernel_rfl
  i53 := by kernel_rfl
  i171 := by kernel_rfl
  i173 := by kernel_rfl
  i212 := by kernel_rfl
  i232 := by kernel_rfl
  i233 := by kernel_rfl
  m17 := by kernel_rfl
  m18 := by kernel_rfl
  m19 := by kernel_rfl }
open Go.RowKit Go.Sort Go.Lib in
theorem Tryz.strconv_Itoa (n : Int) (h0 : -9223372036854775808 ≤ n) (h1 : n ≤ 9223372036854775807) (w : World) (htab : Lib.TabIs Tryz.prog w "internal/strconv.uint64pow10" .u64 Lib.pow10Tab) :
    Calls Tryz.prog 180 #[.int .i64 n] w fun e w' => e = .returned (.string ⟨(Lib.itoa n).toArray⟩) ∧ ∃ k os, w' = grow (w.drewN k) os := Any.strconv_Itoa Tryz.laysM171 n h0 h1 w htab
end Go.Proofs
namespace Go.Proofs.YtcpfhfdgfcilaaaGreatDoor.Val
open Go.ChangeShapes Go.WideShapes Go.ChangeAt Go.RowKit

/-- The variables that the rows list: those of layer 9, those of layer 10. -/
def laidR : List (String × DataW Unit) := Rows.readUnderRow.laid
/-- What the library's functions read that tell numbers. -/
structure Home (w : World) : Prop where
  tab : Lib.TabIs Tryz.prog w "internal/strconv.uint64pow10" .u64 Lib.pow10Tab
/-- What they read that take numbers in, besides. -/
structure HomeE (w : World) : Prop where
  tab : Lib.TabIs Tryz.prog w "internal/strconv.uint64pow10" .u64 Lib.pow10Tab
  syn : ∃ tp p, w.var? Tryz.prog "strconv.ErrSyntax" = some #[.iface tp p]
  rng : ∃ tp p, w.var? Tryz.prog "strconv.ErrRange" = some #[.iface tp p]
theorem gTab : Tryz.prog.globalNamed "internal/strconv.uint64pow10" = some 3 := by kernel_rfl
theorem gSyn : Tryz.prog.globalNamed "strconv.ErrSyntax" = some 0 := by kernel_rfl
theorem gRng : Tryz.prog.globalNamed "strconv.ErrRange" = some 1 := by kernel_rfl
theorem var_same {w w' : World} {n : String} {g : Nat} {cs : Array Value} (hg : Tryz.prog.globalNamed n = some g) (h : w.var? Tryz.prog n = some cs) (hh : ∀ k, k < 4 → k < w.heap.size → w'.heap[k]? = w.heap[k]?) (hg6 : g < 4) : w'.var? Tryz.prog n = some cs := by
  have hl : g < w.heap.size := by
    unfold World.var? at h
    rw [hg, Option.bind_some] at h
    by_cases c : g < w.heap.size
    · exact c
    · rw [Array.getElem?_eq_none (by omega)] at h
      cases h
  unfold World.var? at h ⊢
  rw [hg, Option.bind_some] at h ⊢
  rw [hh g hg6 hl]
  exact h
theorem Home.same {w w' : World} (h : Home w) (hh : ∀ k, k < 4 → k < w.heap.size → w'.heap[k]? = w.heap[k]?) : Home w' := ⟨var_same gTab h.tab hh (by omega)⟩
theorem Home.later {w w' : World} (h : Home w) (hb : Below w.heap.size w w') : Home w' := h.same fun k _ hk => hb.block k hk
theorem HomeE.same {w w' : World} (h : HomeE w) (hh : ∀ k, k < 4 → k < w.heap.size → w'.heap[k]? = w.heap[k]?) : HomeE w' := by
  obtain ⟨t1, p1, h1⟩ := h.syn
  obtain ⟨t2, p2, h2⟩ := h.rng
  exact ⟨var_same gTab h.tab hh (by omega), ⟨t1, p1, var_same gSyn h1 hh (by omega)⟩, ⟨t2, p2, var_same gRng h2 hh (by omega)⟩⟩
theorem HomeE.later {w w' : World} (h : HomeE w) (hb : Below w.heap.size w w') : HomeE w' := h.same fun k _ hk => hb.block k hk
theorem tTab : (Tryz.prog.globals[3]?).map (·.type) = some 257 := by kernel_rfl
theorem homeR_of {W : World} (h : laidMetH Tryz.prog laidR W) : Home W := by
  rw [MakeChecks.laidMetH_plain _ _ _ (by kernel_rfl)] at h
  have h1 : laidMet Tryz.prog [("internal/strconv.uint64pow10", Lib.tabData .u64 Lib.pow10Tab)] W := h.tail.tail
  exact ⟨Lib.tabIs_of_head gTab tTab Tryz.underlying257 Tryz.underlying152 (by kernel_rfl) (by kernel_rfl) h1⟩
end Go.Proofs.YtcpfhfdgfcilaaaGreatDoor.Val
namespace Go.Proofs.YtcpfhfdgfcilaaaGreatDoor.Val

theorem dec_dig : ∀ n, n < 10 ^ 20 → Lib.decDigits n = dig n := by
  intro n
  induction n using Nat.strongRecOn with
  | _ n ih =>
    intro hn
    rw [Lib.decDigits]
    by_cases h : n < 10
    · rw [dif_pos h, dig_low n h]
    · rw [dif_neg h, dig_high n (by omega) hn, ih (n / 10) (by omega) (by omega)]
theorem itoa_intD (x : Int) (h : in64 x) : Lib.itoa x = intD x := by
  unfold Lib.itoa intD in64 at *
  by_cases c : x < 0
  · rw [if_pos c, if_neg (by omega), dec_dig _ (by omega), show x.natAbs = (-x).toNat from by omega]
  · rw [if_neg c, if_pos (by omega), dec_dig _ (by omega)]
end Go.Proofs.YtcpfhfdgfcilaaaGreatDoor.Val
namespace Go.Proofs.YtcpfhfdgfcilaaaGreatDoor.Val
open Go.ChangeShapes Go.WideShapes Go.ChangeAt Go.RowKit

/-- A taker of a text, so far come. -/
structure Tk (w : World) (b : Nat) (s : ByteArray) (p : Nat) : Prop where
  blk : w.heap[b]? = some (.cells #[.string s, .int .i64 (p : Int)] 187 (0, 0))
theorem Tk.lt {w : World} {b : Nat} {s : ByteArray} {p : Nat} (h : Tk w b s p) : b < w.heap.size := by
  by_cases c : b < w.heap.size
  · exact c
  · have := h.blk
    rw [Array.getElem?_eq_none (by omega)] at this
    cases this
theorem Tk.at {w : World} {b : Nat} {s : ByteArray} {p : Nat} (h : Tk w b s p) : w.cell? ⟨b, 1, none⟩ = some (.int .i64 (p : Int)) := by simp [World.cell?, h.blk]
theorem Tk.fz {w : World} {b : Nat} {s : ByteArray} {p : Nat} (h : Tk w b s p) : w.frozen? ⟨b, 1, none⟩ = false := by simp [World.frozen?, h.blk]
theorem Tk.set {w : World} {b : Nat} {s : ByteArray} {p : Nat} (h : Tk w b s p) (q : Nat) : Tk (w.setCell ⟨b, 1, none⟩ (.int .i64 (q : Int))) b s q := by
  refine ⟨?_⟩
  simp only [World.setCell, Array.getElem?_modify, if_true, h.blk, Option.map_some]
  rfl
/-- What stands but for one block. -/
structure Mv (b : Nat) (w w' : World) : Prop where
  os : w'.os = w.os
  tape : w'.tape = w.tape
  output : w'.output = w.output
  size : w.heap.size ≤ w'.heap.size
  block : ∀ k, k < w.heap.size → k ≠ b → w'.heap[k]? = w.heap[k]?
theorem Mv.refl (b : Nat) (w : World) : Mv b w w := ⟨rfl, rfl, rfl, Nat.le_refl _, fun _ _ _ => rfl⟩
theorem Mv.trans {b : Nat} {u v w : World} (h : Mv b u v) (k : Mv b v w) : Mv b u w :=
  ⟨k.os.trans h.os, k.tape.trans h.tape, k.output.trans h.output, Nat.le_trans h.size k.size, fun i hi hb => (k.block i (Nat.lt_of_lt_of_le hi h.size) hb).trans (h.block i hi hb)⟩
theorem Mv.set (b : Nat) (w : World) (o : Nat) (v : Value) : Mv b w (w.setCell ⟨b, o, none⟩ v) := ⟨rfl, rfl, rfl, by simp [World.setCell], fun k _ hk => Below.heap_setCell _ _ _ _ hk⟩
theorem Mv.below {b B : Nat} {w w' : World} (h : Mv b w w') (hB : B ≤ b) (hw : B ≤ w.heap.size) : Below B w w' := ⟨h.os, h.tape, h.output, h.size, fun k hk => h.block k (by omega) (by omega)⟩
theorem Tk.later {w w' : World} {b : Nat} {s : ByteArray} {p : Nat} (h : Tk w b s p) (hb : Below w.heap.size w w') : Tk w' b s p := ⟨(hb.block b h.lt).trans h.blk⟩
theorem drewN_below (w : World) (n : Nat) : Below w.heap.size w (w.drewN n) := below_drewN (Below.refl _ _) n
theorem bel2 {a b c : World} (h : Below a.heap.size a b) (k : Below b.heap.size b c) : Below a.heap.size a c := h.trans (k.mono h.size)

end Go.Proofs.YtcpfhfdgfcilaaaGreatDoor.Val
namespace Go.Proofs.YtcpfhfdgfcilaaaGreatDoor.Val

def kindOf : List UInt8 → Int
  | [] => 0
  | b :: _ => if b = 110 then -1 else if b = 105 then 0 else if b = 115 then 2 else if b = 91 then 3 else if b = 123 then 4 else 1
def bodyOf : List UInt8 → List UInt8
  | [] => []
  | b :: r => if b = 110 then [] else if b = 105 ∨ b = 91 ∨ b = 123 then r.dropLast else if b = 115 then (match seek 58 r with | none => [] | some j => r.drop (j + 1)) else [b]
theorem bl_part (s : ByteArray) (p q : Nat) : bl (s.extract p q) = ((bl s).drop p).take (q - p) := (take_drop_extract s p q).symm
end Go.Proofs.YtcpfhfdgfcilaaaGreatDoor.Val
