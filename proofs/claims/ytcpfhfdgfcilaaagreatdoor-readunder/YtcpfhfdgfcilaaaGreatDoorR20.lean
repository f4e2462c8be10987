/-
  Several texts in one: Blocks that alone may turn; rows of texts that grow, each in a block of its own. Over whatever program.
-/
import Derived.WalkKit
import Derived.ProofKit
import Derived.Below
import Derived.OwnWalk
import Derived.Laws.OwnMore
import Derived.Test.YtcpfhfdgfcilaaaGreatDoorR12
namespace Go.Proofs.YtcpfhfdgfcilaaaGreatDoor.Arr
open Go.ChangeShapes Go.WideShapes Go.ChangeAt Go.RowKit

/-- Of the blocks of a world only these may have turned. -/
structure Kept (S : Nat → Prop) (w w' : World) : Prop where
  os : w'.os = w.os
  tape : w'.tape = w.tape
  output : w'.output = w.output
  size : w.heap.size ≤ w'.heap.size
  block : ∀ k, k < w.heap.size → ¬ S k → w'.heap[k]? = w.heap[k]?
theorem Kept.refl (S : Nat → Prop) (w : World) : Kept S w w := ⟨rfl, rfl, rfl, Nat.le_refl _, fun _ _ _ => rfl⟩
theorem Kept.below {S : Nat → Prop} {w w1 w2 : World} (h : Kept S w w1) (hb : Below w1.heap.size w1 w2) : Kept S w w2 :=
  ⟨hb.os.trans h.os, hb.tape.trans h.tape, hb.output.trans h.output, Nat.le_trans h.size hb.size, fun k hk hs => (hb.block k (Nat.lt_of_lt_of_le hk h.size)).trans (h.block k hk hs)⟩
theorem Kept.grown {S : Nat → Prop} {w w1 w2 : World} (h : Kept S w w1) {row : Option Nat} (hg : w1.grownBy w2 row) (hr : ∀ k, row = some k → S k ∨ w.heap.size ≤ k) : Kept S w w2 :=
  ⟨hg.os.trans h.os, hg.tape.trans h.tape, hg.output.trans h.output, Nat.le_trans h.size hg.size, fun k hk hs => (hg.block k (Nat.lt_of_lt_of_le hk h.size) (fun c => by
    rcases hr k c.symm with c | c
    · exact hs c
    · omega)).trans (h.block k hk hs)⟩
theorem Kept.set {S : Nat → Prop} {w w1 : World} (h : Kept S w w1) {p : Addr} (hp : S p.block) (u : Value) : Kept S w (w1.setCell p u) :=
  ⟨h.os, h.tape, h.output, by have := h.size; simpa [World.setCell] using this, fun k hk hs => (Below.heap_setCell w1 p u k (fun c => hs (c ▸ hp))).trans (h.block k hk hs)⟩
theorem Kept.cell {S : Nat → Prop} {w w1 : World} (h : Kept S w w1) {p : Addr} {v : Value} (hv : w.cell? p = some v) (hp : ¬ S p.block) : w1.cell? p = some v :=
  (World.cell?_of_block (w := w) (h.block p.block (World.block_lt_of_cell? _ _ hv) hp)).trans hv
theorem Kept.down {S : Nat → Prop} {w w1 : World} (h : Kept S w w1) {b : World} (hb : Below b.heap.size b w) (hs : ∀ k, S k → b.heap.size ≤ k) : Below b.heap.size b w1 :=
  ⟨h.os.trans hb.os, h.tape.trans hb.tape, h.output.trans hb.output, Nat.le_trans hb.size h.size, fun k hk => (h.block k (Nat.lt_of_lt_of_le hk hb.size) (fun c => by have := hs k c; omega)).trans (hb.block k hk)⟩
theorem Kept.heap {S : Nat → Prop} {w w1 : World} (h : Kept S w w1) {k : Nat} {o : Obj} (hk : w.heap[k]? = some o) (hs : ¬ S k) : w1.heap[k]? = some o :=
  (h.block k (Array.getElem?_eq_some_iff.1 hk).1 hs).trans hk
theorem Kept.row {S : Nat → Prop} {w w1 : World} (h : Kept S w w1) {base n : Nat} {e : TypeId} {k : Nat} {v : Value} {xs : List Value} (hw : w.ownsRow base e k v n xs) (hs : ∀ g, v.ownBlock = some g → ¬ S g) : w1.ownsRow base e k v n xs := by
  refine ⟨hw.1, hw.2.imp id ?_⟩
  rintro ⟨g, cap, cur, rfl, e2, e3, e4⟩
  exact ⟨g, cap, cur, rfl, e2, h.heap e3 (hs g rfl), e4⟩
theorem row_set {w : World} {base n : Nat} {e : TypeId} {k : Nat} {v : Value} {xs : List Value} (h : w.ownsRow base e k v n xs) {p : Addr} (hp : p.block < base) (u : Value) : (w.setCell p u).ownsRow base e k v n xs := by
  refine ⟨h.1, h.2.imp id ?_⟩
  rintro ⟨g, cap, cur, rfl, e2, e3, e4⟩
  exact ⟨g, cap, cur, rfl, e2, (Below.heap_setCell w p u g (by omega)).trans e3, e4⟩
theorem row_later {w w' : World} {base n : Nat} {e : TypeId} {k : Nat} {v : Value} {xs : List Value} (h : w.ownsRow base e k v n xs) (hb : Below w.heap.size w w') : w'.ownsRow base e k v n xs := by
  refine ⟨h.1, h.2.imp id ?_⟩
  rintro ⟨g, cap, cur, e1, e2, e3, e4⟩
  exact ⟨g, cap, cur, e1, e2, (hb.block g (Array.getElem?_eq_some_iff.1 e3).1).trans e3, e4⟩
theorem grown_of_below {w w' w2 : World} {row : Option Nat} (hb : Below w.heap.size w w') (hg : w'.grownBy w2 row) : w.grownBy w2 row :=
  ⟨hg.os.trans hb.os, hg.tape.trans hb.tape, hg.output.trans hb.output, Nat.le_trans hb.size hg.size, fun k hk hne => (hg.block k (Nat.lt_of_lt_of_le hk hb.size) hne).trans (hb.block k hk)⟩

/-- Rows of texts that grow; where each is stands in a block. T: a list's type; E: a text's. -/
structure RowsIn (T E : TypeId) (w : World) (R b0 : Nat) (cur : Array Value) (L : List (List ByteArray)) : Prop where
  low : R < b0
  blk : w.heap[R]? = some (.cells cur T (0, 0))
  len : cur.size = L.length
  row : ∀ j, j < L.length → ∃ o c, cur[j]? = some (.slice o (L.getD j []).length c) ∧ w.ownsRow b0 E 1 (.slice o (L.getD j []).length c) (L.getD j []).length (Texts.cellsT (L.getD j []))
  apart : ∀ (i j : Nat) (u v : Value), i ≠ j → cur[i]? = some u → cur[j]? = some v → u.ownBlock ≠ none → u.ownBlock ≠ v.ownBlock
theorem RowsIn.later {T E : TypeId} {w w' : World} {R b0 : Nat} {cur : Array Value} {L : List (List ByteArray)} (h : RowsIn T E w R b0 cur L) (hb : Below w.heap.size w w') : RowsIn T E w' R b0 cur L :=
  ⟨h.low, (hb.block R (Array.getElem?_eq_some_iff.1 h.blk).1).trans h.blk, h.len, fun j hj => by
    obtain ⟨o, c, e, e2⟩ := h.row j hj
    exact ⟨o, c, e, row_later e2 hb⟩, h.apart⟩
theorem RowsIn.kept {T E : TypeId} {S : Nat → Prop} {w w' : World} {R b0 : Nat} {cur : Array Value} {L : List (List ByteArray)} (h : RowsIn T E w R b0 cur L) (hb : Kept S w w') (hs : ∀ k, S k → k < b0 ∧ k ≠ R) : RowsIn T E w' R b0 cur L :=
  ⟨h.low, hb.heap h.blk (fun c => (hs R c).2 rfl), h.len, fun j hj => by
    obtain ⟨o, c, e, e2⟩ := h.row j hj
    exact ⟨o, c, e, hb.row e2 (fun g hg c => by have := (hs g c).1; have := (e2.lt g hg).1; omega)⟩, h.apart⟩
theorem RowsIn.cell {T E : TypeId} {w : World} {R b0 : Nat} {cur : Array Value} {L : List (List ByteArray)} (h : RowsIn T E w R b0 cur L) {j : Nat} (hj : j < L.length) :
    ∃ o c, w.cell? ⟨R, j, none⟩ = some (.slice o (L.getD j []).length c) ∧ w.ownsRow b0 E 1 (.slice o (L.getD j []).length c) (L.getD j []).length (Texts.cellsT (L.getD j [])) := by
  obtain ⟨o, c, e, e2⟩ := h.row j hj
  exact ⟨o, c, by simp [World.cell?, h.blk, e], e2⟩
theorem RowsIn.fz {T E : TypeId} {w : World} {R b0 : Nat} {cur : Array Value} {L : List (List ByteArray)} (h : RowsIn T E w R b0 cur L) (j : Nat) : w.frozen? ⟨R, j, none⟩ = false := by
  simp [World.frozen?, h.blk]
/-- One of them grows. -/
theorem RowsIn.grow {T E : TypeId} {w w' : World} {R b0 : Nat} {cur : Array Value} {L : List (List ByteArray)} (h : RowsIn T E w R b0 cur L) {j : Nat} {v : Value} (hv : w.cell? ⟨R, j, none⟩ = some v) (hj : j < L.length) (hb0 : b0 ≤ w.heap.size)
    {ss' : List ByteArray} {v' : Value} {n5 : Nat} (hown : w'.ownsRow b0 E 1 v' ss'.length (Texts.cellsT ss')) (hg : w.grownBy w' v.ownBlock) (hn5 : w.heap.size ≤ n5) (hblk : v'.ownBlock = v.ownBlock ∨ v'.ownBlock = some n5) :
    RowsIn T E (w'.setCell ⟨R, j, none⟩ v') R b0 (cur.setIfInBounds j v') (L.set j ss') := by
  obtain ⟨o, c, e1, e2⟩ := h.row j hj
  have hlen := h.len
  have hjs : j < cur.size := by omega
  have hvc : cur[j]? = some v := by
    have : w.cell? ⟨R, j, none⟩ = cur[j]? := by simp [World.cell?, h.blk]
    rw [← this, hv]
  have hveq : v = .slice o (L.getD j []).length c := by rw [e1] at hvc; injection hvc with hvc; exact hvc.symm
  have hvl : ∀ k, v.ownBlock = some k → b0 ≤ k ∧ k < w.heap.size := by rw [hveq]; exact e2.lt
  have hR : R < w.heap.size := Nat.lt_of_lt_of_le h.low hb0
  have hblk2 : w'.heap[R]? = some (.cells cur T (0, 0)) := (hg.block R hR (fun c => by have := (hvl R c.symm).1; have := h.low; omega)).trans h.blk
  refine ⟨h.low, ?_, by simpa using hlen, fun i hi => ?_, fun i k u x hik hi hk hu => ?_⟩
  · simp [World.setCell, Array.getElem?_modify, hblk2]
  · rw [List.length_set] at hi
    by_cases hij : i = j
    · subst hij
      have e : (L.set i ss').getD i [] = ss' := by simp [List.getD_eq_getElem?_getD, hi]
      rw [e]
      obtain ⟨o', c', rfl⟩ := ownsRow_len hown
      exact ⟨o', c', by simp [hjs], row_set hown h.low _⟩
    · have e : (L.set j ss').getD i [] = L.getD i [] := by rw [List.getD_eq_getElem?_getD, List.getElem?_set_ne (Ne.symm hij), List.getD_eq_getElem?_getD]
      rw [e]
      obtain ⟨o', c', h1, h2⟩ := h.row i hi
      refine ⟨o', c', by rw [Array.getElem?_setIfInBounds_ne (Ne.symm hij)]; exact h1, row_set (h2.kept hg ?_) h.low _⟩
      by_cases hn : (Value.slice o' (L.getD i []).length c').ownBlock = none
      · exact .inl hn
      · exact .inr (h.apart i j _ _ hij h1 hvc hn)
  · by_cases hij : i = j
    · subst hij
      rw [Array.getElem?_setIfInBounds_ne hik] at hk
      have hu' : u = v' := by simpa [hjs] using hi.symm
      subst hu'
      have hkl : ∀ g, x.ownBlock = some g → g < w.heap.size := by
        have hks : k < L.length := by
          have := (Array.getElem?_eq_some_iff.1 hk).1
          omega
        obtain ⟨o', c', h1, h2⟩ := h.row k hks
        rw [h1] at hk
        injection hk with hk
        subst hk
        exact fun g hg => (h2.lt g hg).2
      rcases hblk with c | c
      · rw [c] at hu ⊢
        exact h.apart i k _ _ hik hvc hk hu
      · rw [c]
        intro c2
        have := hkl n5 c2.symm
        omega
    · rw [Array.getElem?_setIfInBounds_ne (Ne.symm hij)] at hi
      have hil : ∀ g, u.ownBlock = some g → g < w.heap.size := by
        have hks : i < L.length := by
          have := (Array.getElem?_eq_some_iff.1 hi).1
          omega
        obtain ⟨o', c', h1, h2⟩ := h.row i hks
        rw [h1] at hi
        injection hi with hi
        subst hi
        exact fun g hg => (h2.lt g hg).2
      by_cases hkj : k = j
      · subst hkj
        have hx : x = v' := by simpa [hjs] using hk.symm
        subst hx
        rcases hblk with c | c
        · rw [c]
          exact h.apart i k _ _ hij hi hvc hu
        · rw [c]
          intro c2
          have := hil n5 c2
          omega
      · rw [Array.getElem?_setIfInBounds_ne (Ne.symm hkj)] at hk
        exact h.apart i k _ _ hik hi hk hu
end Go.Proofs.YtcpfhfdgfcilaaaGreatDoor.Arr
