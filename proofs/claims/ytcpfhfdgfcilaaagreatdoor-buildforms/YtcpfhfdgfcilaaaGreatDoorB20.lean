/-
  Several texts in one: Blocks that alone may turn; rows of texts that grow, each in a block of its own. Over whatever program. · An array of values, by the document: its build, what it stands on: contract. · A list of texts appended to a row of one's own: the operation. Kids that are built: plain facts. · An array of values, by the document: Build, where its build is known: contract.
-/
import Derived.WalkKit
import Derived.ProofKit
import Derived.Below
import Derived.OwnWalk
import Derived.Laws.OwnMore
import Derived.Test.YtcpfhfdgfcilaaaGreatDoorB12
import Derived.Test.YtcpfhfdgfcilaaaGreatDoorB19
import Derived.Test.YtcpfhfdgfcilaaaGreatDoorB16
import Derived.Test.YtcpfhfdgfcilaaaGreatDoorB17
import Derived.Test.YtcpfhfdgfcilaaaGreatDoorB13
import Derived.Test.YtcpfhfdgfcilaaaGreatDoorB05
import Derived.Maps.AppendAt
import Derived.OneCell
import Derived.Deep.CutRange
import Derived.Deep.CutBlock
import Derived.Test.YtcpfhfdgfcilaaaGreatDoorB09
namespace Go.Proofs.YtcpfhfdgfcilaaaGreatDoor.Arr
open Go.ChangeShapes Go.WideShapes Go.ChangeAt Go.RowKit

/-- Of the blocks of a world only these may have turned. -/
structure Kept (S : Nat → Prop) (w w' : World) : Prop where
  os : w'.os = w.os
  tape : w'.tape = w.tape
  output : w'.output = w.output
  size : w.heap.size ≤ w'.heap.size
  block : ∀ k, k < w.heap.size → ¬ S k → w'.heap[k]? = w.heap[k]?
theorem Kept.refl (S : Nat → Prop) (w : World) : Kept S w w := ⟨rfl, rfl, rfl, Nat.le_refl _, fun _ _ _ => rfl⟩
theorem Kept.below {S : Nat → Prop} {w w1 w2 : World} (h : Kept S w w1) (hb : Below w1.heap.size w1 w2) : Kept S w w2 :=
  ⟨hb.os.trans h.os, hb.tape.trans h.tape, hb.output.trans h.output, Nat.le_trans h.size hb.size, fun k hk hs => (hb.block k (Nat.lt_of_lt_of_le hk h.size)).trans (h.block k hk hs)⟩
theorem Kept.grown {S : Nat → Prop} {w w1 w2 : World} (h : Kept S w w1) {row : Option Nat} (hg : w1.grownBy w2 row) (hr : ∀ k, row = some k → S k ∨ w.heap.size ≤ k) : Kept S w w2 :=
  ⟨hg.os.trans h.os, hg.tape.trans h.tape, hg.output.trans h.output, Nat.le_trans h.size hg.size, fun k hk hs => (hg.block k (Nat.lt_of_lt_of_le hk h.size) (fun c => by
    rcases hr k c.symm with c | c
    · exact hs c
    · omega)).trans (h.block k hk hs)⟩
theorem Kept.set {S : Nat → Prop} {w w1 : World} (h : Kept S w w1) {p : Addr} (hp : S p.block) (u : Value) : Kept S w (w1.setCell p u) :=
  ⟨h.os, h.tape, h.output, by have := h.size; simpa [World.setCell] using this, fun k hk hs => (Below.heap_setCell w1 p u k (fun c => hs (c ▸ hp))).trans (h.block k hk hs)⟩
theorem Kept.cell {S : Nat → Prop} {w w1 : World} (h : Kept S w w1) {p : Addr} {v : Value} (hv : w.cell? p = some v) (hp : ¬ S p.block) : w1.cell? p = some v :=
  (World.cell?_of_block (w := w) (h.block p.block (World.block_lt_of_cell? _ _ hv) hp)).trans hv
theorem Kept.down {S : Nat → Prop} {w w1 : World} (h : Kept S w w1) {b : World} (hb : Below b.heap.size b w) (hs : ∀ k, S k → b.heap.size ≤ k) : Below b.heap.size b w1 :=
  ⟨h.os.trans hb.os, h.tape.trans hb.tape, h.output.trans hb.output, Nat.le_trans hb.size h.size, fun k hk => (h.block k (Nat.lt_of_lt_of_le hk hb.size) (fun c => by have := hs k c; omega)).trans (hb.block k hk)⟩
theorem Kept.heap {S : Nat → Prop} {w w1 : World} (h : Kept S w w1) {k : Nat} {o : Obj} (hk : w.heap[k]? = some o) (hs : ¬ S k) : w1.heap[k]? = some o :=
  (h.block k (Array.getElem?_eq_some_iff.1 hk).1 hs).trans hk
theorem Kept.row {S : Nat → Prop} {w w1 : World} (h : Kept S w w1) {base n : Nat} {e : TypeId} {k : Nat} {v : Value} {xs : List Value} (hw : w.ownsRow base e k v n xs) (hs : ∀ g, v.ownBlock = some g → ¬ S g) : w1.ownsRow base e k v n xs := by
  refine ⟨hw.1, hw.2.imp id ?_⟩
  rintro ⟨g, cap, cur, rfl, e2, e3, e4⟩
  exact ⟨g, cap, cur, rfl, e2, h.heap e3 (hs g rfl), e4⟩
theorem row_set {w : World} {base n : Nat} {e : TypeId} {k : Nat} {v : Value} {xs : List Value} (h : w.ownsRow base e k v n xs) {p : Addr} (hp : p.block < base) (u : Value) : (w.setCell p u).ownsRow base e k v n xs := by
  refine ⟨h.1, h.2.imp id ?_⟩
  rintro ⟨g, cap, cur, rfl, e2, e3, e4⟩
  exact ⟨g, cap, cur, rfl, e2, (Below.heap_setCell w p u g (by omega)).trans e3, e4⟩
theorem row_later {w w' : World} {base n : Nat} {e : TypeId} {k : Nat} {v : Value} {xs : List Value} (h : w.ownsRow base e k v n xs) (hb : Below w.heap.size w w') : w'.ownsRow base e k v n xs := by
  refine ⟨h.1, h.2.imp id ?_⟩
  rintro ⟨g, cap, cur, e1, e2, e3, e4⟩
  exact ⟨g, cap, cur, e1, e2, (hb.block g (Array.getElem?_eq_some_iff.1 e3).1).trans e3, e4⟩
/-- Rows of texts that grow; where each is stands in a block. T: a list's type; E: a text's. -/
structure RowsIn (T E : TypeId) (w : World) (R b0 : Nat) (cur : Array Value) (L : List (List ByteArray)) : Prop where
  low : R < b0
  blk : w.heap[R]? = some (.cells cur T (0, 0))
  len : cur.size = L.length
  row : ∀ j, j < L.length → ∃ o c, cur[j]? = some (.slice o (L.getD j []).length c) ∧ w.ownsRow b0 E 1 (.slice o (L.getD j []).length c) (L.getD j []).length (Texts.cellsT (L.getD j []))
  apart : ∀ (i j : Nat) (u v : Value), i ≠ j → cur[i]? = some u → cur[j]? = some v → u.ownBlock ≠ none → u.ownBlock ≠ v.ownBlock
theorem RowsIn.later {T E : TypeId} {w w' : World} {R b0 : Nat} {cur : Array Value} {L : List (List ByteArray)} (h : RowsIn T E w R b0 cur L) (hb : Below w.heap.size w w') : RowsIn T E w' R b0 cur L :=
  ⟨h.low, (hb.block R (Array.getElem?_eq_some_iff.1 h.blk).1).trans h.blk, h.len, fun j hj => by
    obtain ⟨o, c, e, e2⟩ := h.row j hj
    exact ⟨o, c, e, row_later e2 hb⟩, h.apart⟩
theorem RowsIn.kept {T E : TypeId} {S : Nat → Prop} {w w' : World} {R b0 : Nat} {cur : Array Value} {L : List (List ByteArray)} (h : RowsIn T E w R b0 cur L) (hb : Kept S w w') (hs : ∀ k, S k → k < b0 ∧ k ≠ R) : RowsIn T E w' R b0 cur L :=
  ⟨h.low, hb.heap h.blk (fun c => (hs R c).2 rfl), h.len, fun j hj => by
    obtain ⟨o, c, e, e2⟩ := h.row j hj
    exact ⟨o, c, e, hb.row e2 (fun g hg c => by have := (hs g c).1; have := (e2.lt g hg).1; omega)⟩, h.apart⟩
theorem RowsIn.cell {T E : TypeId} {w : World} {R b0 : Nat} {cur : Array Value} {L : List (List ByteArray)} (h : RowsIn T E w R b0 cur L) {j : Nat} (hj : j < L.length) :
    ∃ o c, w.cell? ⟨R, j, none⟩ = some (.slice o (L.getD j []).length c) ∧ w.ownsRow b0 E 1 (.slice o (L.getD j []).length c) (L.getD j []).length (Texts.cellsT (L.getD j [])) := by
  obtain ⟨o, c, e, e2⟩ := h.row j hj
  exact ⟨o, c, by simp [World.cell?, h.blk, e], e2⟩
theorem RowsIn.fz {T E : TypeId} {w : World} {R b0 : Nat} {cur : Array Value} {L : List (List ByteArray)} (h : RowsIn T E w R b0 cur L) (j : Nat) : w.frozen? ⟨R, j, none⟩ = false := by
  simp [World.frozen?, h.blk]
/-- One of them grows. -/
theorem RowsIn.grow {T E : TypeId} {w w' : World} {R b0 : Nat} {cur : Array Value} {L : List (List ByteArray)} (h : RowsIn T E w R b0 cur L) {j : Nat} {v : Value} (hv : w.cell? ⟨R, j, none⟩ = some v) (hj : j < L.length) (hb0 : b0 ≤ w.heap.size)
    {ss' : List ByteArray} {v' : Value} {n5 : Nat} (hown : w'.ownsRow b0 E 1 v' ss'.length (Texts.cellsT ss')) (hg : w.grownBy w' v.ownBlock) (hn5 : w.heap.size ≤ n5) (hblk : v'.ownBlock = v.ownBlock ∨ v'.ownBlock = some n5) :
    RowsIn T E (w'.setCell ⟨R, j, none⟩ v') R b0 (cur.setIfInBounds j v') (L.set j ss') := by
  obtain ⟨o, c, e1, e2⟩ := h.row j hj
  have hlen := h.len
  have hjs : j < cur.size := by omega
  have hvc : cur[j]? = some v := by
    have : w.cell? ⟨R, j, none⟩ = cur[j]? := by simp [World.cell?, h.blk]
    rw [← this, hv]
  have hveq : v = .slice o (L.getD j []).length c := by rw [e1] at hvc; injection hvc with hvc; exact hvc.symm
  have hvl : ∀ k, v.ownBlock = some k → b0 ≤ k ∧ k < w.heap.size := by rw [hveq]; exact e2.lt
  have hR : R < w.heap.size := Nat.lt_of_lt_of_le h.low hb0
  have hblk2 : w'.heap[R]? = some (.cells cur T (0, 0)) := (hg.block R hR (fun c => by have := (hvl R c.symm).1; have := h.low; omega)).trans h.blk
  refine ⟨h.low, ?_, by simpa using hlen, fun i hi => ?_, fun i k u x hik hi hk hu => ?_⟩
  · simp [World.setCell, Array.getElem?_modify, hblk2]
  · rw [List.length_set] at hi
    by_cases hij : i = j
    · subst hij
      have e : (L.set i ss').getD i [] = ss' := by simp [List.getD_eq_getElem?_getD, hi]
      rw [e]
      obtain ⟨o', c', rfl⟩ := ownsRow_len hown
      exact ⟨o', c', by simp [hjs], row_set hown h.low _⟩
    · have e : (L.set j ss').getD i [] = L.getD i [] := by rw [List.getD_eq_getElem?_getD, List.getElem?_set_ne (Ne.symm hij), List.getD_eq_getElem?_getD]
      rw [e]
      obtain ⟨o', c', h1, h2⟩ := h.row i hi
      refine ⟨o', c', by rw [Array.getElem?_setIfInBounds_ne (Ne.symm hij)]; exact h1, row_set (h2.kept hg ?_) h.low _⟩
      by_cases hn : (Value.slice o' (L.getD i []).length c').ownBlock = none
      · exact .inl hn
      · exact .inr (h.apart i j _ _ hij h1 hvc hn)
  · by_cases hij : i = j
    · subst hij
      rw [Array.getElem?_setIfInBounds_ne hik] at hk
      have hu' : u = v' := by simpa [hjs] using hi.symm
      subst hu'
      have hkl : ∀ g, x.ownBlock = some g → g < w.heap.size := by
        have hks : k < L.length := by
          have := (Array.getElem?_eq_some_iff.1 hk).1
          omega
        obtain ⟨o', c', h1, h2⟩ := h.row k hks
        rw [h1] at hk
        injection hk with hk
        subst hk
        exact fun g hg => (h2.lt g hg).2
      rcases hblk with c | c
      · rw [c] at hu ⊢
        exact h.apart i k _ _ hik hvc hk hu
      · rw [c]
        intro c2
        have := hkl n5 c2.symm
        omega
    · rw [Array.getElem?_setIfInBounds_ne (Ne.symm hij)] at hi
      have hil : ∀ g, u.ownBlock = some g → g < w.heap.size := by
        have hks : i < L.length := by
          have := (Array.getElem?_eq_some_iff.1 hi).1
          omega
        obtain ⟨o', c', h1, h2⟩ := h.row i hks
        rw [h1] at hi
        injection hi with hi
        subst hi
        exact fun g hg => (h2.lt g hg).2
      by_cases hkj : k = j
      · subst hkj
        have hx : x = v' := by simpa [hjs] using hk.symm
        subst hx
        rcases hblk with c | c
        · rw [c]
          exact h.apart i k _ _ hij hi hvc hu
        · rw [c]
          intro c2
          have := hil n5 c2
          omega
      · rw [Array.getElem?_setIfInBounds_ne (Ne.symm hkj)] at hk
        exact h.apart i k _ _ hik hi hk hu
end Go.Proofs.YtcpfhfdgfcilaaaGreatDoor.Arr
set_option linter.unusedVariables false
set_option linter.unusedSimpArgs false
namespace Go.Proofs.YtcpfhfdgfcilaaaGreatDoor.Arr
open Go.ChangeShapes Go.WideShapes Go.ChangeAt Go.RowKit
open Tree Val

/-- A field of an array's box, written over. -/
theorem Bx.set5 {w : World} {g : Nat} {a : Arr} {o : Option Addr} {cap : Nat} (h : Bx w g a o cap) (s : ByteArray) : ∃ w', w.setCell ⟨g, 5, none⟩ (.string s) = w' ∧ Bx w' g { a with data := s } o cap ∧ (∀ (S : Nat → Prop) (w0 : World), S g → Kept S w0 w → Kept S w0 w') ∧ (∀ b, b ≠ g → w'.heap[b]? = w.heap[b]?) :=
  ⟨_, rfl, ⟨by rw [blk_set h.blk 5]; rfl⟩, fun S w0 hS hk => hk.set hS _, fun b hb => Below.heap_setCell _ _ _ _ hb⟩
theorem Bx.set4 {w : World} {g : Nat} {a : Arr} {o : Option Addr} {cap : Nat} (h : Bx w g a o cap) (s : ByteArray) : ∃ w', w.setCell ⟨g, 4, none⟩ (.string s) = w' ∧ Bx w' g { a with ends := s } o cap ∧ (∀ (S : Nat → Prop) (w0 : World), S g → Kept S w0 w → Kept S w0 w') ∧ (∀ b, b ≠ g → w'.heap[b]? = w.heap[b]?) :=
  ⟨_, rfl, ⟨by rw [blk_set h.blk 4]; rfl⟩, fun S w0 hS hk => hk.set hS _, fun b hb => Below.heap_setCell _ _ _ _ hb⟩
theorem Bx.set6 {w : World} {g : Nat} {a : Arr} {o : Option Addr} {cap : Nat} (h : Bx w g a o cap) (ks : List Arr) (o' : Option Addr) (cap' : Nat) : ∃ w', w.setCell ⟨g, 6, none⟩ (.slice o' ks.length cap') = w' ∧ Bx w' g { a with kids := ks } o' cap' ∧ (∀ (S : Nat → Prop) (w0 : World), S g → Kept S w0 w → Kept S w0 w') ∧ (∀ b, b ≠ g → w'.heap[b]? = w.heap[b]?) :=
  ⟨_, rfl, ⟨by rw [blk_set h.blk 6]; rfl⟩, fun S w0 hS hk => hk.set hS _, fun b hb => Below.heap_setCell _ _ _ _ hb⟩
/-- What the document's build answers. -/
def BuildG (B f : Nat) (bf : Option Arr) (w : World) (r : Ending) (w' : World) : Prop :=
  ∃ (X : Arr) (o' : Option Addr) (c' : Nat), r = .returned (.tuple #[X.val o' c', .bool bf.isSome]) ∧ Below w.heap.size w w' ∧ (bf.isSome = true → bf = some X ∧ HoldsO B w' f (fun b => w.heap.size ≤ b) (X.cells o' c') X)
def BuildQ (B f : Nat) (ns : List Nd) (n : Nat) (V : List (List UInt8)) (w : World) (r : Ending) (w' : World) : Prop := BuildG B f (buildF ns f n V) w r w'
theorem Bx.c6r {w : World} {g m : Nat} {a b c : Int} {v e d : ByteArray} {o : Option Addr} {cap : Nat} (h : Bx w g ⟨a, b, c, v, e, d, List.replicate m nil⟩ o cap) : w.cell? ⟨g, 6, none⟩ = some (.slice o m cap) := by
  have := h.c6
  simpa using this
/-- Any value that fits. -/
theorem any_at {ns : List Nd} {g n : Nat} {s : ByteArray} (h : fitsF ns (g + 1) n s = true) : TellA s (tellV (bl s)).1 ((tellV (bl s)).2.map mk) 0 := by
  have hb : mk (bl s) = s := mk_of s
  have hT := tell_fit (v := bl s) (by rw [hb]; exact h)
  rw [hb] at hT
  exact .inl ⟨hT, rfl⟩
theorem all_at {ns : List Nd} {g n : Nat} {ss : List ByteArray} (h : AllFit ns (g + 1) n (ss.map bl)) {k : Nat} (hk : k < ss.length) : fitsF ns (g + 1) n (ss.getD k ByteArray.empty) = true := by
  have hmem : ss.getD k ByteArray.empty ∈ ss := by
    rw [List.getD_eq_getElem?_getD, List.getElem?_eq_getElem hk]
    exact List.getElem_mem hk
  have := h _ (List.mem_map_of_mem hmem)
  rwa [show mk (bl (ss.getD k ByteArray.empty)) = ss.getD k ByteArray.empty from mk_of _] at this
theorem bl_at (ss : List ByteArray) {k : Nat} (hk : k < ss.length) : (ss.map bl).getD k [] = bl (ss.getD k ByteArray.empty) := by
  rw [List.getD_eq_getElem?_getD, List.getElem?_map, List.getD_eq_getElem?_getD, List.getElem?_eq_getElem hk]
  rfl
theorem ok_built {ns : List Nd} {f n : Nat} {vs : List (List UInt8)} {a : Arr} {B : Nat} (hB : 4096 ≤ B) (h : buildF ns (f + 1) n vs = some a) : a.ok B := by
  obtain ⟨rfl, h64, _, hd, he⟩ := build_some h
  refine ⟨rfl, rfl, ?_, ?_, ?_, ?_⟩
  · have e1 : IntKind.i64.min = -9223372036854775808 := by decide
    have e2 : IntKind.i64.max = 9223372036854775807 := by decide
    unfold built
    simp only [Lit.wf, Bool.and_eq_true, decide_eq_true_eq, e1, e2]
    omega
  · show (mk (validOf vs)).size ≤ B
    rw [size_mk]
    rcases valid_len vs with c | ⟨c, _⟩ <;> omega
  · show (mk (endsOf ns n vs)).size ≤ B
    rw [size_mk]
    omega
  · show (mk (dataOf ns n vs)).size ≤ B
    rw [size_mk]
    omega
theorem holds_leaf {B : Nat} {w : World} {f : Nat} {ok : Nat → Prop} {a : Arr} (h : a.ok B) (hk : a.kids = []) : HoldsO B w (f + 1) ok (a.cells none 0) a :=
  ⟨none, 0, rfl, h, by rw [hk]; exact Nat.le_refl _, Nat.zero_le _, .inl ⟨rfl, hk, rfl⟩⟩
/-- Kids and all. -/
theorem kids_done {B f : Nat} {ns : List Nd} {n : Nat} {V : List (List UInt8)} {w w' : World} {o : Option Addr} {c : Nat} {v : Value} (h : (buildF ns (f + 1) n V).isSome = true) (hb : Below w.heap.size w w') (hA : (built ns f n V).val o c = v) (hh : HoldsO B w' (f + 1) (fun b => w.heap.size ≤ b) ((built ns f n V).cells o c) (built ns f n V)) : BuildQ B (f + 1) ns n V w (.returned (.tuple #[v, .bool true])) w' := by
  refine ⟨built ns f n V, o, c, by rw [h, hA], hb, fun _ => ⟨?_, hh⟩⟩
  obtain ⟨a, ha⟩ := Option.isSome_iff_exists.1 h
  rw [ha, (build_some ha).1]
/-- It is too much. -/
theorem none_done {B f : Nat} {ns : List Nd} {n : Nat} {V : List (List UInt8)} {w w' : World} (X : Arr) (o : Option Addr) (c : Nat) (h : (buildF ns f n V).isSome = false) (hb : Below w.heap.size w w') : BuildQ B f ns n V w (.returned (.tuple #[X.val o c, .bool false])) w' :=
  ⟨X, o, c, by rw [h], hb, fun e => by rw [h] at e; cases e⟩
/-- Copies stay where nothing of theirs is written. -/
theorem Copied.stays {B f : Nat} {a : Arr} {b0 k : Nat} {v : Value} {w w' : World} {css : List (List Value)} (h : Copied B f a b0 k v w css) (hb : ∀ b, b0 ≤ b → b < w.heap.size → w'.heap[b]? = w.heap[b]?) (hs : w.heap.size ≤ w'.heap.size) : Copied B f a b0 k v w' css := by
  refine ⟨h.len, ⟨h.own.1, h.own.2.imp id ?_⟩, fun i hi => ?_⟩
  · rintro ⟨g, cap, cur, e1, e2, e3, e4⟩
    exact ⟨g, cap, cur, e1, e2, (hb g e2 (Array.getElem?_eq_some_iff.1 e3).1).trans e3, e4⟩
  · obtain ⟨e1, e2⟩ := h.each i hi
    exact ⟨e1, e2.stays (fun b hb' => hb b hb'.1 hb'.2.1) (fun b hb' => ⟨hb'.1, by omega, hb'.2.2⟩)⟩
end Go.Proofs.YtcpfhfdgfcilaaaGreatDoor.Arr
set_option linter.unusedSimpArgs false
namespace Go.Proofs.YtcpfhfdgfcilaaaGreatDoor.Arr
open Go.ChangeShapes Go.WideShapes Go.ChangeAt Go.RowKit
open Tree Val

end Go.Proofs.YtcpfhfdgfcilaaaGreatDoor.Arr
set_option linter.unusedVariables false
set_option linter.unusedSimpArgs false
namespace Go.Proofs.YtcpfhfdgfcilaaaGreatDoor.Arr
open Go.ChangeShapes Go.WideShapes Go.ChangeAt Go.RowKit
open Tree Val

/-- What the document's Build answers: the error's number, the array. -/
def fitAll (ns : List Nd) (at' : Int) (ss : List ByteArray) : Bool := ss.all fun s => fitsZ ns at' s
def bdE (ns : List Nd) (at' : Int) (ss : List ByteArray) : Int := if hasB ns at' && fitAll ns at' ss then (if (buildF ns 8 at'.toNat (ss.map bl)).isSome then 0 else 1001) else 1000
def bdA (ns : List Nd) (at' : Int) (ss : List ByteArray) : Arr := if bdE ns at' ss = 0 then (buildF ns 8 at'.toNat (ss.map bl)).getD nil else nil
theorem nil_ok (B : Nat) : nil.ok B := ⟨rfl, rfl, rfl, Nat.zero_le _, Nat.zero_le _, Nat.zero_le _⟩
def BdQ (B : Nat) (ns : List Nd) (at' : Int) (ss : List ByteArray) (w : World) (r : Ending) (w' : World) : Prop :=
  ∃ (o' : Option Addr) (c' : Nat), r = .returned (.tuple #[(bdA ns at' ss).val o' c', .int .i64 (bdE ns at' ss)]) ∧ HoldsO B w' 8 (fun b => w.heap.size ≤ b) ((bdA ns at' ss).cells o' c') (bdA ns at' ss) ∧ Below w.heap.size w w'
theorem bd_no {B : Nat} {ns : List Nd} {at' : Int} {ss : List ByteArray} {w w' : World} {E : Int} (h : bdE ns at' ss = E) (h0 : E ≠ 0) (hb : Below w.heap.size w w') : BdQ B ns at' ss w (.returned (.tuple #[nil.val none 0, .int .i64 E])) w' := by
  have hA : bdA ns at' ss = nil := by unfold bdA; rw [h, if_neg h0]
  exact ⟨none, 0, by rw [hA, h], by rw [hA]; exact holds_leaf (nil_ok B) rfl, hb⟩
theorem fit_all {ns : List Nd} {n : Nat} {ss : List ByteArray} (hb : hasB ns (n : Int) = true) (h : fitAll ns (n : Int) ss = true) : AllFit ns 8 n (ss.map bl) := by
  intro v hv
  obtain ⟨s, hs, rfl⟩ := List.mem_map.1 hv
  have := List.all_eq_true.1 h s hs
  rw [fitsZ_yes hb] at this
  rw [show mk (bl s) = s from mk_of s]
  exact this
end Go.Proofs.YtcpfhfdgfcilaaaGreatDoor.Arr
