/-
  Several texts in one: Blocks that alone may turn; rows of texts that grow, each in a block of its own. Over whatever program. · An array of values, by the document: its build, what it stands on: contract. · A list of texts appended to a row of one's own: the operation. Kids that are built: plain facts. · An array of values, by the document: Build, where its build is known: contract.
-/
import Derived.WalkKit
import Derived.ProofKit
import Derived.Below
import Derived.OwnWalk
import Derived.Laws.OwnMore
import Derived.Test.YtcpfhfdgfcilaaaGreatDoorB12
import Derived.Test.YtcpfhfdgfcilaaaGreatDoorB19
import Derived.Test.YtcpfhfdgfcilaaaGreatDoorB16
import Derived.Test.YtcpfhfdgfcilaaaGreatDoorB17
import Derived.Test.YtcpfhfdgfcilaaaGreatDoorB13
import Derived.Test.YtcpfhfdgfcilaaaGreatDoorB05
import Derived.Maps.AppendAt
import Derived.OneCell
import Derived.Deep.CutRange
import Derived.Deep.CutBlock
import Derived.Test.YtcpfhfdgfcilaaaGreatDoorB09
namespace Go.Proofs.YtcpfhfdgfcilaaaGreatDoor.Arr
open Go.ChangeShapes Go.WideShapes Go.ChangeAt Go.RowKit

/-- Of the blocks of a world only these may have turned. -/
structure Kept (S : Nat → Prop) (w w' : World) : Prop where
  os : w'.os = w.os
  tape : w'.tape = w.tape
  output : w'.output = w.output
  size : w.heap.size ≤ w'.heap.size
  block : ∀ k, k < w.heap.size → ¬ S k → w'.heap[k]? = w.heap[k]?
theorem Kept.refl (S : Nat → Prop) (w : World) : Kept S w w := ⟨rfl, rfl, rfl, Nat.le_refl _, fun _ _ _ => rfl⟩
theorem Kept.below {S : Nat → Prop} {w w1 w2 : World} (h : Kept S w w1) (hb : Below w1.heap.size w1 w2) : Kept S w w2 :=
  ⟨hb.os.trans h.os, hb.tape.trans h.tape, hb.output.trans h.output, Nat.le_trans h.size hb.size, fun k hk hs => (hb.block k (Nat.lt_of_lt_of_le hk h.size)).trans (h.block k hk hs)⟩
theorem Kept.grown {S : Nat → Prop} {w w1 w2 : World} (h : Kept S w w1) {row : Option Nat} (hg : w1.grownBy w2 row) (hr : ∀ k, row = some k → S k ∨ w.heap.size ≤ k) : Kept S w w2 :=
  ⟨hg.os.trans h.os, hg.tape.trans h.tape, hg.output.trans h.output, Nat.le_trans h.size hg.size, fun k hk hs => (hg.block k (Nat.lt_of_lt_of_le hk h.size) (fun c => by
    rcases hr k c.symm with c | c
    · exact hs c
    · omega)).trans (h.block k hk hs)⟩
theorem Kept.set {S : Nat → Prop} {w w1 : World} (h : Kept S w w1) {p : Addr} (hp : S p.block) (u : Value) : Kept S w (w1.setCell p u) :=
  ⟨h.os, h.tape, h.output, by have := h.size; simpa [World.setCell] using this, fun k hk hs => (Below.heap_setCell w1 p u k (fun c => hs (c ▸ hp))).trans (h.block k hk hs)⟩
theorem Kept.cell {S : Nat → Prop} {w w1 : World} (h : Kept S w w1) {p : Addr} {v : Value} (hv : w.cell? p = some v) (hp : ¬ S p.block) : w1.cell? p = some v :=
  (World.cell?_of_block (w := w) (h.block p.block (World.block_lt_of_cell? _ _ hv) hp)).trans hv
theorem Kept.down {S : Nat → Prop} {w w1 : World} (h : Kept S w w1) {b : World} (hb : Below b.heap.size b w) (hs : ∀ k, S k → b.heap.size ≤ k) : Below b.heap.size b w1 :=
  ⟨h.os.trans hb.os, h.tape.trans hb.tape, h.output.trans hb.output, Nat.le_trans hb.size h.size, fun k hk => (h.block k (Nat.lt_of_lt_of_le hk hb.size) (fun c => by have := hs k c; omega)).trans (hb.block k hk)⟩
theorem Kept.heap {S : Nat → Prop} {w w1 : World} (h : Kept S w w1) {k : Nat} {o : Obj} (hk : w.heap[k]? = some o) (hs : ¬ S k) : w1.heap[k]? = some o :=
  (h.block k (Array.getElem?_eq_some_iff.1 hk).1 hs).trans hk
theorem Kept.row {S : Nat → Prop} {w w1 : World} (h : Kept S w w1) {base n : Nat} {e : TypeId} {k : Nat} {v : Value} {xs : List Value} (hw : w.ownsRow base e k v n xs) (hs : ∀ g, v.ownBlock = some g → ¬ S g) : w1.ownsRow base e k v n xs := by
  refine ⟨hw.1, hw.2.imp id ?_⟩
  rintro ⟨g, cap, cur, rfl, e2, e3, e4⟩
  exact ⟨g, cap, cur, rfl, e2, h.heap e3 (hs g rfl), e4⟩
theorem row_set {w : World} {base n : Nat} {e : TypeId} {k : Nat} {v : Value} {xs : List Value} (h : w.ownsRow base e k v n xs) {p : Addr} (hp : p.block < base) (u : Value) : (w.setCell p u).ownsRow base e k v n xs := by
  refine ⟨h.1, h.2.imp id ?_⟩
  rintro ⟨g, cap, cur, rfl, e2, e3, e4⟩
  exact ⟨g, cap, cur, rfl, e2, (Below.heap_setCell w p u g (by omega)).trans e3, e4⟩
theorem row_later {w w' : World} {base n : Nat} {e : TypeId} {k : Nat} {v : Value} {xs : List Value} (h : w.ownsRow base e k v n xs) (hb : Below w.heap.size w w') : w'.ownsRow base e k v n xs := by
  refine ⟨h.1, h.2.imp id ?_⟩
  rintro ⟨g, cap, cur, e1, e2, e3, e4⟩
  exact ⟨g, cap, cur, e1, e2, (hb.block g (Array.getElem?_eq_some_iff.1 e3).1).trans e3, e4⟩
/-- Rows of texts that grow; where each is stands in a block. T: a list's type; E: a text's. -/
structure RowsIn (T E : TypeId) (w : World) (R b0 : Nat) (cur : Array Value) (L : List (List ByteArray)) : Prop where
  low : R < b0
  blk : w.heap[R]? = some (.cells cur T (0, 0))
  len : cur.size = L.length
  row : ∀ j, j < L.length → ∃ o c, cur[j]? = some (.slice o (L.getD j []).length c) ∧ w.ownsRow b0 E 1 (.slice o (L.getD j []).length c) (L.getD j []).length (Texts.cellsT (L.getD j []))
  apart : ∀ (i j : Nat) (u v : Value), i ≠ j → cur[i]? = some u → cur[j]? = some v → u.ownBlock ≠ none → u.ownBlock ≠ v.ownBlock
theorem RowsIn.later {T E : TypeId} {w w' : World} {R b0 : Nat} {cur : Array Value} {L : List (List ByteArray)} (h : RowsIn T E w R b0 cur L) (hb : Below w.heap.size w w') : RowsIn T E w' R b0 cur L :=
  ⟨h.low, (hb.block R (Array.getElem?_eq_some_iff.1 h.blk).1).trans h.blk, h.len, fun j hj => by
    obtain ⟨o, c, e, e2⟩ := h.row j hj
    exact ⟨o, c, e, row_later e2 hb⟩, h.apart⟩
theorem RowsIn.kept {T E : TypeId} {S : Nat → Prop} {w w' : World} {R b0 : Nat} {cur : Array Value} {L : List (List ByteArray)} (h : RowsIn T E w R b0 cur L) (hb : Kept S w w') (hs : ∀ k, S k → k < b0 ∧ k ≠ R) : RowsIn T E w' R b0 cur L :=
  ⟨h.low, hb.heap h.blk (fun c => (hs R c).2 rfl), h.len, fun j hj => by
    obtain ⟨o, c, e, e2⟩ := h.row j hj
    exact ⟨o, c, e, hb.row e2 (fun g hg c => by have := (hs g c).1; have := (e2.lt g hg).1; omega)⟩, h.apart⟩
theorem RowsIn.cell {T E : TypeId} {w : World} {R b0 : Nat} {cur : Array Value} {L : List (List ByteArray)} (h : RowsIn T E w R b0 cur L) {j : Nat} (hj : j < L.length) :
    ∃ o c, w.cell? ⟨R, j, none⟩ = some (.slice o (L.getD j []).length c) ∧ w.ownsRow b0 E 1 (.slice o (L.getD j []).length c) (L.getD j []).length (Texts.cellsT (L.getD j [])) := by
  obtain ⟨o, c, e, e2⟩ := h.row j hj
  exact ⟨o, c, by simp [World.cell?, h.blk, e], e2⟩
theorem RowsIn.fz {T E : TypeId} {w : World} {R b0 : Nat} {cur : Array Value} {L : List (List ByteArray)} (h : RowsIn T E w R b0 cur L) (j : Nat) : w.frozen? ⟨R, j, none⟩ = false := by
  simp [World.frozen?, h.blk]
/-- None of them has anything yet. -/
theorem rowsIn_new (T E : TypeId) (w : World) (M : Nat) {cur : Array Value} (hc : cur.size = M) (hn : ∀ (j : Nat) (u : Value), cur[j]? = some u → u = .slice none 0 0) : RowsIn T E (w.alloc (.cells cur T)) w.heap.size (w.heap.size + 1) cur (List.replicate M []) := by
  refine ⟨Nat.lt_succ_self _, heap_alloc_new _ _, by simpa using hc, fun j hj => ?_, fun i j u v _ hi hj hu => ?_⟩
  · have hj' : j < M := by simpa using hj
    have e : (List.replicate M ([] : List ByteArray)).getD j [] = [] := by simp [List.getD_eq_getElem?_getD, hj']
    rw [e]
    have := hn j _ (Array.getElem?_eq_getElem (show j < cur.size from by omega))
    exact ⟨none, 0, by rw [Array.getElem?_eq_getElem (show j < cur.size from by omega), this]; rfl, World.ownsRow_nil _ _ _ _⟩
  · rw [hn i u hi] at hu
    exact absurd rfl hu
/-- One of them grows. -/
theorem RowsIn.grow {T E : TypeId} {w w' : World} {R b0 : Nat} {cur : Array Value} {L : List (List ByteArray)} (h : RowsIn T E w R b0 cur L) {j : Nat} {v : Value} (hv : w.cell? ⟨R, j, none⟩ = some v) (hj : j < L.length) (hb0 : b0 ≤ w.heap.size)
    {ss' : List ByteArray} {v' : Value} {n5 : Nat} (hown : w'.ownsRow b0 E 1 v' ss'.length (Texts.cellsT ss')) (hg : w.grownBy w' v.ownBlock) (hn5 : w.heap.size ≤ n5) (hblk : v'.ownBlock = v.ownBlock ∨ v'.ownBlock = some n5) :
    RowsIn T E (w'.setCell ⟨R, j, none⟩ v') R b0 (cur.setIfInBounds j v') (L.set j ss') := by
  obtain ⟨o, c, e1, e2⟩ := h.row j hj
  have hlen := h.len
  have hjs : j < cur.size := by omega
  have hvc : cur[j]? = some v := by
    have : w.cell? ⟨R, j, none⟩ = cur[j]? := by simp [World.cell?, h.blk]
    rw [← this, hv]
  have hveq : v = .slice o (L.getD j []).length c := by rw [e1] at hvc; injection hvc with hvc; exact hvc.symm
  have hvl : ∀ k, v.ownBlock = some k → b0 ≤ k ∧ k < w.heap.size := by rw [hveq]; exact e2.lt
  have hR : R < w.heap.size := Nat.lt_of_lt_of_le h.low hb0
  have hblk2 : w'.heap[R]? = some (.cells cur T (0, 0)) := (hg.block R hR (fun c => by have := (hvl R c.symm).1; have := h.low; omega)).trans h.blk
  refine ⟨h.low, ?_, by simpa using hlen, fun i hi => ?_, fun i k u x hik hi hk hu => ?_⟩
  · simp [World.setCell, Array.getElem?_modify, hblk2]
  · rw [List.length_set] at hi
    by_cases hij : i = j
    · subst hij
      have e : (L.set i ss').getD i [] = ss' := by simp [List.getD_eq_getElem?_getD, hi]
      rw [e]
      obtain ⟨o', c', rfl⟩ := ownsRow_len hown
      exact ⟨o', c', by simp [hjs], row_set hown h.low _⟩
    · have e : (L.set j ss').getD i [] = L.getD i [] := by rw [List.getD_eq_getElem?_getD, List.getElem?_set_ne (Ne.symm hij), List.getD_eq_getElem?_getD]
      rw [e]
      obtain ⟨o', c', h1, h2⟩ := h.row i hi
      refine ⟨o', c', by rw [Array.getElem?_setIfInBounds_ne (Ne.symm hij)]; exact h1, row_set (h2.kept hg ?_) h.low _⟩
      by_cases hn : (Value.slice o' (L.getD i []).length c').ownBlock = none
      · exact .inl hn
      · exact .inr (h.apart i j _ _ hij h1 hvc hn)
  · by_cases hij : i = j
    · subst hij
      rw [Array.getElem?_setIfInBounds_ne hik] at hk
      have hu' : u = v' := by simpa [hjs] using hi.symm
      subst hu'
      have hkl : ∀ g, x.ownBlock = some g → g < w.heap.size := by
        have hks : k < L.length := by
          have := (Array.getElem?_eq_some_iff.1 hk).1
          omega
        obtain ⟨o', c', h1, h2⟩ := h.row k hks
        rw [h1] at hk
        injection hk with hk
        subst hk
        exact fun g hg => (h2.lt g hg).2
      rcases hblk with c | c
      · rw [c] at hu ⊢
        exact h.apart i k _ _ hik hvc hk hu
      · rw [c]
        intro c2
        have := hkl n5 c2.symm
        omega
    · rw [Array.getElem?_setIfInBounds_ne (Ne.symm hij)] at hi
      have hil : ∀ g, u.ownBlock = some g → g < w.heap.size := by
        have hks : i < L.length := by
          have := (Array.getElem?_eq_some_iff.1 hi).1
          omega
        obtain ⟨o', c', h1, h2⟩ := h.row i hks
        rw [h1] at hi
        injection hi with hi
        subst hi
        exact fun g hg => (h2.lt g hg).2
      by_cases hkj : k = j
      · subst hkj
        have hx : x = v' := by simpa [hjs] using hk.symm
        subst hx
        rcases hblk with c | c
        · rw [c]
          exact h.apart i k _ _ hij hi hvc hu
        · rw [c]
          intro c2
          have := hil n5 c2
          omega
      · rw [Array.getElem?_setIfInBounds_ne (Ne.symm hkj)] at hk
        exact h.apart i k _ _ hik hi hk hu
end Go.Proofs.YtcpfhfdgfcilaaaGreatDoor.Arr
set_option linter.unusedVariables false
set_option linter.unusedSimpArgs false
namespace Go.Proofs.YtcpfhfdgfcilaaaGreatDoor.Arr
open Go.ChangeShapes Go.WideShapes Go.ChangeAt Go.RowKit
open Tree Val

/-- A field of an array's box, written over. -/
theorem Bx.set5 {w : World} {g : Nat} {a : Arr} {o : Option Addr} {cap : Nat} (h : Bx w g a o cap) (s : ByteArray) : ∃ w', w.setCell ⟨g, 5, none⟩ (.string s) = w' ∧ Bx w' g { a with data := s } o cap ∧ (∀ (S : Nat → Prop) (w0 : World), S g → Kept S w0 w → Kept S w0 w') ∧ (∀ b, b ≠ g → w'.heap[b]? = w.heap[b]?) :=
  ⟨_, rfl, ⟨by rw [blk_set h.blk 5]; rfl⟩, fun S w0 hS hk => hk.set hS _, fun b hb => Below.heap_setCell _ _ _ _ hb⟩
theorem Bx.set4 {w : World} {g : Nat} {a : Arr} {o : Option Addr} {cap : Nat} (h : Bx w g a o cap) (s : ByteArray) : ∃ w', w.setCell ⟨g, 4, none⟩ (.string s) = w' ∧ Bx w' g { a with ends := s } o cap ∧ (∀ (S : Nat → Prop) (w0 : World), S g → Kept S w0 w → Kept S w0 w') ∧ (∀ b, b ≠ g → w'.heap[b]? = w.heap[b]?) :=
  ⟨_, rfl, ⟨by rw [blk_set h.blk 4]; rfl⟩, fun S w0 hS hk => hk.set hS _, fun b hb => Below.heap_setCell _ _ _ _ hb⟩
theorem Bx.set6 {w : World} {g : Nat} {a : Arr} {o : Option Addr} {cap : Nat} (h : Bx w g a o cap) (ks : List Arr) (o' : Option Addr) (cap' : Nat) : ∃ w', w.setCell ⟨g, 6, none⟩ (.slice o' ks.length cap') = w' ∧ Bx w' g { a with kids := ks } o' cap' ∧ (∀ (S : Nat → Prop) (w0 : World), S g → Kept S w0 w → Kept S w0 w') ∧ (∀ b, b ≠ g → w'.heap[b]? = w.heap[b]?) :=
  ⟨_, rfl, ⟨by rw [blk_set h.blk 6]; rfl⟩, fun S w0 hS hk => hk.set hS _, fun b hb => Below.heap_setCell _ _ _ _ hb⟩
theorem Kept.under {S T : Nat → Prop} {w w1 w2 : World} (h : Kept S w w1) (k : Kept T w1 w2) (ht : ∀ q, T q → S q) : Kept S w w2 :=
  ⟨k.os.trans h.os, k.tape.trans h.tape, k.output.trans h.output, Nat.le_trans h.size k.size, fun q hq hs => (k.block q (Nat.lt_of_lt_of_le hq h.size) (fun c => hs (ht q c))).trans (h.block q hq hs)⟩
theorem info38 : (Tryz.prog.info? 29).map (fun i => (i.zero, i.size, i.bytes)) = some (some (.slice none 0 0), 1, 24) := by kernel_rfl
/-- The rows that are made. -/
theorem make_rows (n : Nat) (h : n ≤ 4096) (w : World) : ∃ cur, (Instr.makeSlice 110 (.int .i64 (n : Int)) (.int .i64 (n : Int))).run Tryz.prog w = .ok (.slice (some ⟨w.heap.size, 0, none⟩) n n) (w.alloc (.cells cur 29)) ∧ cur.size = n ∧ ∀ (j : Nat) (u : Value), cur[j]? = some u → u = .slice none 0 0 := by
  obtain ⟨i, hi, hz0, hz1, hz2⟩ := info_parts info38
  have := run_make (P := Tryz.prog) w 110 29 i (.slice none 0 0) Tryz.underlying110 hi hz0 .i64 .i64 n n (by omega) (Int.le_refl _) (by rw [hz2]; omega) (by omega)
  rw [this, hz1, Nat.mul_one, Int.toNat_natCast]
  refine ⟨_, rfl, by simp [madeCells], fun j u hu => ?_⟩
  have hj := (Array.getElem?_eq_some_iff.1 hu).1
  simp [madeCells] at hu hj
  obtain ⟨q, _, rfl⟩ := hu
  simp [Value.cells, Nat.mod_one]
/-- What the document's build answers. -/
def BuildG (B f : Nat) (bf : Option Arr) (w : World) (r : Ending) (w' : World) : Prop :=
  ∃ (X : Arr) (o' : Option Addr) (c' : Nat), r = .returned (.tuple #[X.val o' c', .bool bf.isSome]) ∧ Below w.heap.size w w' ∧ (bf.isSome = true → bf = some X ∧ HoldsO B w' f (fun b => w.heap.size ≤ b) (X.cells o' c') X)
def BuildQ (B f : Nat) (ns : List Nd) (n : Nat) (V : List (List UInt8)) (w : World) (r : Ending) (w' : World) : Prop := BuildG B f (buildF ns f n V) w r w'
theorem Bx.c6r {w : World} {g m : Nat} {a b c : Int} {v e d : ByteArray} {o : Option Addr} {cap : Nat} (h : Bx w g ⟨a, b, c, v, e, d, List.replicate m nil⟩ o cap) : w.cell? ⟨g, 6, none⟩ = some (.slice o m cap) := by
  have := h.c6
  simpa using this
/-- A value of whole numbers that fits, taken apart. -/
theorem int_at {ns : List Nd} (hm : May ns) {g n : Nat} (hn : n < ns.length) (hk : (nd ns n).kind = 0) {s : ByteArray} (h : fitsF ns (g + 1) n s = true) : (TellA s (-1) [] 0 ∧ intV (bl s) = 0) ∨ ∃ x, in64 x ∧ TellA s 0 [mk (intD x)] 0 ∧ intV (bl s) = x ∧ numOf (bl (mk (intD x))) = some x ∧ (mk (intD x)).size ≤ 65536 := by
  have hb : mk (bl s) = s := mk_of s
  have hT := tell_fit (v := bl s) (by rw [hb]; exact h)
  have hV := fitV hm hn (v := bl s) (by rw [hb]; exact h)
  rw [hb] at hT
  rcases hV.kind with ⟨h1, h2, h3⟩ | ⟨h1, h2⟩
  · rw [h1, h2] at hT
    refine .inl ⟨.inl ⟨hT, rfl⟩, ?_⟩
    unfold intV
    rw [h1, if_pos (by decide)]
  · rw [hk] at h1
    obtain ⟨x, hx, hp, hi⟩ := hV.int hk h1
    rw [h1, hp] at hT
    refine .inr ⟨x, hx, .inl ⟨hT, rfl⟩, hi, ?_, ?_⟩
    · show numOf (bl ⟨(intD x).toArray⟩) = _
      rw [bl_mk, numOf_intD x hx]
    · rw [size_mk]
      have := length_intD x hx
      omega
/-- A value of bytes that fits. -/
theorem bytes_at {ns : List Nd} (hm : May ns) {g n : Nat} (hn : n < ns.length) (hk : (nd ns n).kind = 2) {s : ByteArray} (h : fitsF ns (g + 1) n s = true) : ∃ (K : Int) (ps : List ByteArray), TellA s K ps 0 ∧ flat ps = (tellV (bl s)).2.flatten ∧ (flat ps).length ≤ 16 ∧ ps.length ≤ 1 := by
  have hb : mk (bl s) = s := mk_of s
  have hT := tell_fit (v := bl s) (by rw [hb]; exact h)
  have hV := fitV hm hn (v := bl s) (by rw [hb]; exact h)
  rw [hb] at hT
  have hf : flat ((tellV (bl s)).2.map mk) = (tellV (bl s)).2.flatten := by
    unfold flat
    rw [List.map_map, show (bl ∘ mk) = id from funext fun l => bl_mk l, List.map_id]
  exact ⟨_, _, .inl ⟨hT, rfl⟩, hf, by rw [hf]; exact (hV.bytes hk).1, by rw [List.length_map]; exact (hV.bytes hk).2⟩
/-- Any value that fits. -/
theorem any_at {ns : List Nd} {g n : Nat} {s : ByteArray} (h : fitsF ns (g + 1) n s = true) : TellA s (tellV (bl s)).1 ((tellV (bl s)).2.map mk) 0 := by
  have hb : mk (bl s) = s := mk_of s
  have hT := tell_fit (v := bl s) (by rw [hb]; exact h)
  rw [hb] at hT
  exact .inl ⟨hT, rfl⟩
theorem all_at {ns : List Nd} {g n : Nat} {ss : List ByteArray} (h : AllFit ns (g + 1) n (ss.map bl)) {k : Nat} (hk : k < ss.length) : fitsF ns (g + 1) n (ss.getD k ByteArray.empty) = true := by
  have hmem : ss.getD k ByteArray.empty ∈ ss := by
    rw [List.getD_eq_getElem?_getD, List.getElem?_eq_getElem hk]
    exact List.getElem_mem hk
  have := h _ (List.mem_map_of_mem hmem)
  rwa [show mk (bl (ss.getD k ByteArray.empty)) = ss.getD k ByteArray.empty from mk_of _] at this
theorem bl_at (ss : List ByteArray) {k : Nat} (hk : k < ss.length) : (ss.map bl).getD k [] = bl (ss.getD k ByteArray.empty) := by
  rw [List.getD_eq_getElem?_getD, List.getElem?_map, List.getD_eq_getElem?_getD, List.getElem?_eq_getElem hk]
  rfl
theorem app_mk (a b : List UInt8) : mk a ++ mk b = mk (a ++ b) := Val.mk_app a b
theorem wrap_wrapN (x : Int) : IntKind.u64.wrap x = ((wrapN x : Nat) : Int) := by
  unfold wrapN
  have e : IntKind.u64.wrap x = x % 18446744073709551616 := by simp [IntKind.wrap, IntKind.bits, IntKind.signed]
  rw [e]
  omega
theorem ok_built {ns : List Nd} {f n : Nat} {vs : List (List UInt8)} {a : Arr} {B : Nat} (hB : 4096 ≤ B) (h : buildF ns (f + 1) n vs = some a) : a.ok B := by
  obtain ⟨rfl, h64, _, hd, he⟩ := build_some h
  refine ⟨rfl, rfl, ?_, ?_, ?_, ?_⟩
  · have e1 : IntKind.i64.min = -9223372036854775808 := by decide
    have e2 : IntKind.i64.max = 9223372036854775807 := by decide
    unfold built
    simp only [Lit.wf, Bool.and_eq_true, decide_eq_true_eq, e1, e2]
    omega
  · show (mk (validOf vs)).size ≤ B
    rw [size_mk]
    rcases valid_len vs with c | ⟨c, _⟩ <;> omega
  · show (mk (endsOf ns n vs)).size ≤ B
    rw [size_mk]
    omega
  · show (mk (dataOf ns n vs)).size ≤ B
    rw [size_mk]
    omega
theorem holds_leaf {B : Nat} {w : World} {f : Nat} {ok : Nat → Prop} {a : Arr} (h : a.ok B) (hk : a.kids = []) : HoldsO B w (f + 1) ok (a.cells none 0) a :=
  ⟨none, 0, rfl, h, by rw [hk]; exact Nat.le_refl _, Nat.zero_le _, .inl ⟨rfl, hk, rfl⟩⟩
theorem leaf_done {B f : Nat} {ns : List Nd} {n : Nat} {V : List (List UInt8)} {w w' : World} {A : Arr} (hB : 4096 ≤ B) (h : buildF ns (f + 1) n V = some A) (hk : A.kids = []) (hb : Below w.heap.size w w') : BuildQ B (f + 1) ns n V w (.returned (.tuple #[A.val none 0, .bool true])) w' := by
  refine ⟨A, none, 0, by rw [h]; rfl, hb, fun _ => ⟨h, ?_⟩⟩
  exact holds_leaf (ok_built hB h) hk
/-- Kids and all. -/
theorem kids_done {B f : Nat} {ns : List Nd} {n : Nat} {V : List (List UInt8)} {w w' : World} {o : Option Addr} {c : Nat} {v : Value} (h : (buildF ns (f + 1) n V).isSome = true) (hb : Below w.heap.size w w') (hA : (built ns f n V).val o c = v) (hh : HoldsO B w' (f + 1) (fun b => w.heap.size ≤ b) ((built ns f n V).cells o c) (built ns f n V)) : BuildQ B (f + 1) ns n V w (.returned (.tuple #[v, .bool true])) w' := by
  refine ⟨built ns f n V, o, c, by rw [h, hA], hb, fun _ => ⟨?_, hh⟩⟩
  obtain ⟨a, ha⟩ := Option.isSome_iff_exists.1 h
  rw [ha, (build_some ha).1]
/-- It is too much. -/
theorem none_done {B f : Nat} {ns : List Nd} {n : Nat} {V : List (List UInt8)} {w w' : World} (X : Arr) (o : Option Addr) (c : Nat) (h : (buildF ns f n V).isSome = false) (hb : Below w.heap.size w w') : BuildQ B f ns n V w (.returned (.tuple #[X.val o c, .bool false])) w' :=
  ⟨X, o, c, by rw [h], hb, fun e => by rw [h] at e; cases e⟩
/-- What the document's build answers, of any node, so deep. -/
def BuildC (B f : Nat) : Prop := ∀ (ns : List Nd) (oT : Option Addr) (capT n g : Nat) (ss : List ByteArray) (o : Option Addr) (cap : Nat) (w : World), n < ns.length → may ns = true → ns.length - n ≤ f → ns.length - n ≤ g → AllFit ns g n (ss.map bl) → ss.length ≤ 8796093021952 → Texts.IsTx w o ss → IsT w oT ns →
  Calls Tryz.prog 62 #[.agg #[.slice oT ns.length capT], .int .i64 (n : Int), .slice o ss.length cap] w (BuildQ B f ns n (ss.map bl) w)
/-- Copies stay where nothing of theirs is written. -/
theorem Copied.stays {B f : Nat} {a : Arr} {b0 k : Nat} {v : Value} {w w' : World} {css : List (List Value)} (h : Copied B f a b0 k v w css) (hb : ∀ b, b0 ≤ b → b < w.heap.size → w'.heap[b]? = w.heap[b]?) (hs : w.heap.size ≤ w'.heap.size) : Copied B f a b0 k v w' css := by
  refine ⟨h.len, ⟨h.own.1, h.own.2.imp id ?_⟩, fun i hi => ?_⟩
  · rintro ⟨g, cap, cur, e1, e2, e3, e4⟩
    exact ⟨g, cap, cur, e1, e2, (hb g e2 (Array.getElem?_eq_some_iff.1 e3).1).trans e3, e4⟩
  · obtain ⟨e1, e2⟩ := h.each i hi
    exact ⟨e1, e2.stays (fun b hb' => hb b hb'.1 hb'.2.1) (fun b hb' => ⟨hb'.1, by omega, hb'.2.2⟩)⟩
end Go.Proofs.YtcpfhfdgfcilaaaGreatDoor.Arr
set_option linter.unusedSimpArgs false
namespace Go.Proofs.YtcpfhfdgfcilaaaGreatDoor.Arr
open Go.ChangeShapes Go.WideShapes Go.ChangeAt Go.RowKit
open Tree Val

theorem append_nothing {w : World} {base n : Nat} {v : Value} {xs : List Value} (h : w.ownsRow base 9 1 v n xs) : (Builtin.append_ #[29, 29] 29 #[v, .slice none 0 0]).run Tryz.prog w = .ok v w := by
  obtain ⟨i9, hi, hz0, hz1, hz2⟩ := info_parts info9
  rcases h.2 with ⟨rfl, rfl⟩ | ⟨g, cap, cur, rfl, _, _, hnc, _⟩
  · simp [Builtin.append_, run_underlying Tryz.underlying29, sizeOf, typeInfo, hi, Builtin.lenOf, Builtin.firstCells, loadCells, loadCellsFrom]
  · simp [Builtin.append_, run_underlying Tryz.underlying29, sizeOf, typeInfo, hi, Builtin.lenOf, Builtin.firstCells, loadCells, loadCellsFrom, hnc, storeCells]
theorem run_append_texts {w : World} {base n : Nat} {v : Value} {ss : List ByteArray} (hown : w.ownsRow base 9 1 v n (Texts.cellsT ss)) (hn : n = ss.length) {b2 : Nat} {oP : Option Addr} {cP : Nat} {ps : List ByteArray} (hp : w.ownsRow b2 9 1 (.slice oP ps.length cP) ps.length (Texts.cellsT ps)) (h63 : n + ps.length ≤ 1048576) (hbase : base ≤ w.heap.size) :
    ∃ v' w', (Builtin.append_ #[29, 29] 29 #[v, .slice oP ps.length cP]).run Tryz.prog w = .ok v' w' ∧ w'.ownsRow base 9 1 v' (ss ++ ps).length (Texts.cellsT (ss ++ ps)) ∧ w.grownBy w' v.ownBlock ∧ (v'.ownBlock = v.ownBlock ∨ v'.ownBlock = some w.heap.size) := by
  subst hn
  obtain ⟨i9, hi, hz0, hz1, hz2⟩ := info_parts info9
  rcases hp.2 with ⟨e, e0⟩ | ⟨g, cap, cur, e, h1, h2, h3, h4, h5, h6⟩
  · injection e with e1 e2 e3
    subst e1 e3
    have hnil : ps = [] := List.length_eq_zero_iff.1 e0
    subst hnil
    exact ⟨v, w, append_nothing hown, by rw [List.append_nil]; exact hown, ⟨rfl, rfl, rfl, Nat.le_refl _, fun _ _ _ => rfl⟩, .inl rfl⟩
  · injection e with e1 e2 e3
    subst e1 e3
    obtain ⟨v', w', hr, a1, a2, _, a4⟩ := run_append_own_at (P := Tryz.prog) w base 29 29 9 i9 (.string ⟨#[]⟩) 1 16 Tryz.underlying29 hi hz0 hz1 hz2 rfl (by decide) v ss.length _ hown ⟨g, 0, none⟩ ps.length cP (Texts.cellsT ps) (by simp [Texts.cellsT]) (hp.cells rfl) (by intro u hu; simp [Texts.cellsT] at hu; obtain ⟨s, _, rfl⟩ := hu; rfl) (by unfold maxLen; omega) (by omega) hbase
    refine ⟨v', w', hr, ?_, a2, a4⟩
    rw [List.length_append, show Texts.cellsT (ss ++ ps) = Texts.cellsT ss ++ Texts.cellsT ps from by simp [Texts.cellsT]]
    exact a1
theorem wpList_append_texts {ops : Array Oper} {rest : List Oper} {o : Oper} {a : Act} {Q : Exit → Act → World → Prop} {w : World} (hgd : o.guard = none) (s x : Operand) (hty : o.type = 29)
    (ho : o.op = .call { callee := .builtin .append, args := #[s, x], argTypes := #[29, 29] }) {base n : Nat} {v : Value} {ss : List ByteArray} (hs : a.eval s = v) (hown : w.ownsRow base 9 1 v n (Texts.cellsT ss)) (hn : n = ss.length) {b2 : Nat} {oP : Option Addr} {cP : Nat} {ps : List ByteArray} (hx : a.eval x = .slice oP ps.length cP) (hp : w.ownsRow b2 9 1 (.slice oP ps.length cP) ps.length (Texts.cellsT ps)) (h63 : n + ps.length ≤ 1048576) (hbase : base ≤ w.heap.size)
    (h : ∀ v' w', w'.ownsRow base 9 1 v' (ss ++ ps).length (Texts.cellsT (ss ++ ps)) → w.grownBy w' v.ownBlock → (v'.ownBlock = v.ownBlock ∨ v'.ownBlock = some w.heap.size) → wpList Tryz.prog ops Q rest (a.put o.dst v') w') : wpList Tryz.prog ops Q (o :: rest) a w := by
  refine wpList_plain hgd fun K hK => ?_
  obtain ⟨v', w', hr, h2, h3, h5⟩ := run_append_texts hown hn hp h63 hbase
  rw [← hty] at hr
  unfold Oper.wp execOp
  rw [hty] at hr
  simp only [ho, hty, resolve, invoke, builtin, Sem.run_bind, Sem.run_pure, Result.andThen_ok, List.map_toArray, List.map_cons, List.map_nil, hs, hx, hr]
  exact hK _ _ (h v' w' h2 h3 h5)
end Go.Proofs.YtcpfhfdgfcilaaaGreatDoor.Arr
set_option linter.unusedVariables false
set_option linter.unusedSimpArgs false
namespace Go.Proofs.YtcpfhfdgfcilaaaGreatDoor.Arr
open Go.ChangeShapes Go.WideShapes Go.ChangeAt Go.RowKit
open Tree Val

/-- What the document's Build answers: the error's number, the array. -/
def fitAll (ns : List Nd) (at' : Int) (ss : List ByteArray) : Bool := ss.all fun s => fitsZ ns at' s
def bdE (ns : List Nd) (at' : Int) (ss : List ByteArray) : Int := if hasB ns at' && fitAll ns at' ss then (if (buildF ns 8 at'.toNat (ss.map bl)).isSome then 0 else 1001) else 1000
def bdA (ns : List Nd) (at' : Int) (ss : List ByteArray) : Arr := if bdE ns at' ss = 0 then (buildF ns 8 at'.toNat (ss.map bl)).getD nil else nil
theorem nil_ok (B : Nat) : nil.ok B := ⟨rfl, rfl, rfl, Nat.zero_le _, Nat.zero_le _, Nat.zero_le _⟩
def BdQ (B : Nat) (ns : List Nd) (at' : Int) (ss : List ByteArray) (w : World) (r : Ending) (w' : World) : Prop :=
  ∃ (o' : Option Addr) (c' : Nat), r = .returned (.tuple #[(bdA ns at' ss).val o' c', .int .i64 (bdE ns at' ss)]) ∧ HoldsO B w' 8 (fun b => w.heap.size ≤ b) ((bdA ns at' ss).cells o' c') (bdA ns at' ss) ∧ Below w.heap.size w w'
theorem bd_no {B : Nat} {ns : List Nd} {at' : Int} {ss : List ByteArray} {w w' : World} {E : Int} (h : bdE ns at' ss = E) (h0 : E ≠ 0) (hb : Below w.heap.size w w') : BdQ B ns at' ss w (.returned (.tuple #[nil.val none 0, .int .i64 E])) w' := by
  have hA : bdA ns at' ss = nil := by unfold bdA; rw [h, if_neg h0]
  exact ⟨none, 0, by rw [hA, h], by rw [hA]; exact holds_leaf (nil_ok B) rfl, hb⟩
theorem fit_all {ns : List Nd} {n : Nat} {ss : List ByteArray} (hb : hasB ns (n : Int) = true) (h : fitAll ns (n : Int) ss = true) : AllFit ns 8 n (ss.map bl) := by
  intro v hv
  obtain ⟨s, hs, rfl⟩ := List.mem_map.1 hv
  have := List.all_eq_true.1 h s hs
  rw [fitsZ_yes hb] at this
  rw [show mk (bl s) = s from mk_of s]
  exact this
set_option maxRecDepth 20000 in
set_option maxHeartbeats 3200000 in
theorem buildA_of (B : Nat) (hB : 4096 ≤ B) (ns : List Nd) (oT : Option Addr) (capT : Nat) (at' : Int) (ss : List ByteArray) (o : Option Addr) (cap : Nat) (w : World) (hl4 : ss.length ≤ 8796093021952) (hx : Texts.IsTx w o ss) (ht : IsT w oT ns) (HBR : Hid (∀ (n : Nat) (wr : World), at' = (n : Int) → n < ns.length → may ns = true → AllFit ns 8 n (ss.map bl) → Below w.heap.size w wr → Calls Tryz.prog 62 #[.agg #[.slice oT ns.length capT], .int .i64 (n : Int), .slice o ss.length cap] wr (BuildG B 8 (buildF ns 8 n (ss.map bl)) wr))) :
    Calls Tryz.prog 27 #[.agg #[.slice oT ns.length capT], .int .i64 at', .slice o ss.length cap] w (BdQ B ns at' ss w) := by
  obtain ⟨w1, e1, s1, c1, b1⟩ := boxed w (.slice oT ns.length capT) 24
  obtain ⟨w2, e2', x2, b2, z2⟩ := box7 w1 nil none 0
  have e2 : w1.alloc (.cells #[.int .i64 0, .int .i64 0, .int .i64 0, .string ⟨#[]⟩, .string ⟨#[]⟩, .string ⟨#[]⟩, .slice none 0 0] 27) = w2 := e2'
  clear e2'
  have hS1 : w.heap.size < w1.heap.size := s1
  have hS2 : w1.heap.size < w2.heap.size := z2
  have B2 : Hid (Below w.heap.size w w2) := bel2 b1 b2
  have HCT : Hid (w2.cell? ⟨w.heap.size, 0, none⟩ = some (.slice oT ns.length capT)) := cell_later b2 c1
  have XR2 : Hid (Bx w2 w1.heap.size nil none 0) := x2
  have HT : Hid (IsT w oT ns) := ht
  have HTX : Hid (Texts.IsTx w o ss) := hx
  have HNM : Hid (∀ v, Below w.heap.size w v → Calls Tryz.prog 51 #[.agg #[.slice oT ns.length capT], .int .i64 at'] v fun r w' => r = .returned (.bool (hasB ns at')) ∧ Below v.heap.size v w') := fun v hv => nodeMay oT capT ns at' v (ht.later hv)
  have HFT : Hid (∀ v s, Below w.heap.size w v → Calls Tryz.prog 61 #[.agg #[.slice oT ns.length capT], .int .i64 at', .string s] v fun r w' => r = .returned (.bool (fitsZ ns at' s)) ∧ Below v.heap.size v w') := fun v s hv => fitsRZ oT capT ns at' s v (ht.later hv)
  have cT := HCT.out
  have B1 : Hid (Below w.heap.size w w1) := b1
  clear s1 c1 b1 b2 z2 x2
  go_enter Tryz.func27, Tryz.ntmps27
  go_wp2_with fail
  refine (HNM.out w2 B2.out).mono ?_
  rintro e w3 ⟨rfl, b3⟩
  have B3 : Hid (Below w.heap.size w w3) := bel2 B2.out b3
  have B23 : Hid (Below w2.heap.size w2 w3) := b3
  have XR3 : Hid (Bx w3 w1.heap.size nil none 0) := XR2.out.later b3
  have HC3 : Hid (w3.cell? ⟨w.heap.size, 0, none⟩ = some (.slice oT ns.length capT)) := cell_later b3 HCT.out
  clear b3 cT e1 e2
  cases hH : hasB ns at'
  · have HE : Hid (bdE ns at' ss = 1000) := by unfold Hid bdE; rw [hH]; rfl
    have XR : Hid (Bx w3 w1.heap.size nil none 0) := XR3.out
    clear hH
    have u0 := XR.out.c0
    have u1 := XR.out.c1
    have u2 := XR.out.c2
    have u3 := XR.out.c3
    have u4 := XR.out.c4
    have u5 := XR.out.c5
    have u6 := XR.out.c6
    have v0 := XR.out.fz 0
    have v1 := XR.out.fz 1
    have v2 := XR.out.fz 2
    have v3 := XR.out.fz 3
    have v4 := XR.out.fz 4
    have v5 := XR.out.fz 5
    have v6 := XR.out.fz 6
    unfold nil at u0 u1 u2 u3 u4 u5 u6
    obtain ⟨w11, e11, x11, h11, b11⟩ := set7 XR.out nil none 0
    have e11b : (((((((w3).setCell ⟨w1.heap.size, 0, none⟩ (.int .i64 0)).setCell ⟨w1.heap.size, 1, none⟩ (.int .i64 0)).setCell ⟨w1.heap.size, 2, none⟩ (.int .i64 0)).setCell ⟨w1.heap.size, 3, none⟩ (.string ⟨#[]⟩)).setCell ⟨w1.heap.size, 4, none⟩ (.string ⟨#[]⟩)).setCell ⟨w1.heap.size, 5, none⟩ (.string ⟨#[]⟩)).setCell ⟨w1.heap.size, 6, none⟩ (.slice none 0 0) = w11 := e11
    have HB11 : Hid (Below w.heap.size w w11) := B3.out.trans (b11 w.heap.size (by omega))
    have q0 := x11.c0
    have q1 := x11.c1
    have q2 := x11.c2
    have q3 := x11.c3
    have q4 := x11.c4
    have q5 := x11.c5
    have q6 := x11.c6
    unfold nil at q0 q1 q2 q3 q4 q5 q6
    have HQ : Hid (BdQ B ns at' ss w (.returned (.tuple #[.agg #[.int .i64 0, .int .i64 0, .int .i64 0, .string ⟨#[]⟩, .string ⟨#[]⟩, .string ⟨#[]⟩, .slice none 0 0], .int .i64 1000])) w11) := bd_no HE.out (by decide) HB11.out
    clear e11 x11 h11 b11
    go_wp2_with fail
    try rw [e11b]
    exact bodyPost_ret (v := .tuple #[.agg #[.int .i64 0, .int .i64 0, .int .i64 0, .string ⟨#[]⟩, .string ⟨#[]⟩, .string ⟨#[]⟩, .slice none 0 0], .int .i64 1000]) (by simp [results, Tryz.results27, go_sem, q0, q1, q2, q3, q4, q5, q6] <;> rfl) rfl HQ.out
  have HH : Hid (hasB ns at' = true) := hH
  clear hH
  go_wp2_with fail
  go_loopw [8] (fun i wr => ∃ k : Nat, k ≤ ss.length ∧ i = .int .i64 (k : Int) ∧ (∀ j, j < k → fitsZ ns at' (ss.getD j ByteArray.empty) = true) ∧ Below w3.heap.size w3 wr) (fun i _ => ss.length - (intOf i).toNat)
  case atStart => exact ⟨0, Nat.zero_le _, rfl, fun j hj => by omega, Below.refl _ _⟩
  case round =>
    obtain ⟨k, hk2, rfl, hall, hbl⟩ := hrel
    have HALL : Hid (∀ j, j < k → fitsZ ns at' (ss.getD j ByteArray.empty) = true) := hall
    have BL : Hid (Below w3.heap.size w3 wr) := hbl
    have BR : Hid (Below w.heap.size w wr) := bel2 B3.out hbl
    have HCR : Hid (wr.cell? ⟨w.heap.size, 0, none⟩ = some (.slice oT ns.length capT)) := cell_later hbl HC3.out
    have XR : Hid (Bx wr w1.heap.size nil none 0) := XR3.out.later hbl
    have hlen0 : (0 : Int) ≤ ((ss.length : Nat) : Int) := Int.natCast_nonneg _
    clear hall hbl
    by_cases hlt : k < ss.length
    · obtain ⟨y, rfl, hy⟩ := tx_at HTX.out (by omega)
      have HCS : Hid (wr.cell? (y.add k) = some (.string (ss.getD k ByteArray.empty))) := cell_later BR.out (hy k hlt)
      have i0 : (0 : Int) ≤ (k : Int) := Int.natCast_nonneg _
      have i1 : (k : Int) < ((ss.length : Nat) : Int) := by omega
      have i2 : ((ss.length : Nat) : Int) ≤ 8796093021952 := by omega
      have HSM : Hid (ss.getD k ByteArray.empty ∈ ss) := by
        unfold Hid
        rw [List.getD_eq_getElem?_getD, List.getElem?_eq_getElem hlt]
        exact List.getElem_mem hlt
      have HAL2 : Hid (fitsZ ns at' (ss.getD k ByteArray.empty) = true → ∀ j, j < k + 1 → fitsZ ns at' (ss.getD j ByteArray.empty) = true) := fun h j hj => by
        by_cases hjk : j < k
        · exact HALL.out j hjk
        · obtain rfl : j = k := by omega
          exact h
      clear hy
      generalize ss.getD k ByteArray.empty = s at *
      have KLA : Hid (∀ W, Below wr.heap.size wr W → (W.cell? ⟨w.heap.size, 0, none⟩ = some (.slice oT ns.length capT) ∧ W.cell? (y.add k) = some (.string s))) := fun W hb => ⟨cell_later hb HCR.out, cell_later hb HCS.out⟩
      have BD : Hid (Below wr.heap.size wr wr.drew) := drewN_below wr 1
      have KR : Hid (wr.drew.cell? ⟨w.heap.size, 0, none⟩ = some (.slice oT ns.length capT) ∧ wr.drew.cell? (y.add k) = some (.string s)) := KLA.out _ BD.out
      have cT := HCR.out
      have cs := HCS.out
      go_wp2_with fail
      refine wp_region_noPanic ?_
      refine wp_region_held_drew (S := fun W : World => W.cell? ⟨w.heap.size, 0, none⟩ = some (.slice oT ns.length capT) ∧ W.cell? (y.add k) = some (.string s)) (by kernel_rfl) KR.out (fun h0 => ?_)
      generalize wr.drew = wd at *
      refine take_at (i := 0) (d := some 22) (v := ?v0z6) rfl rfl (by kernel_rfl) (by kernel_rfl) (by kernel_rfl) (fun _ _ _ h => h) (Or.inl ⟨by rfl, ?y0z6⟩) h0 ?r0z6
      case y0z6 => (intro w' hSw; (try dsimp only at hSw); go_simp; try with_reducible rfl)
      try simp only [Act.put, List.setIfInBounds_toArray, List.set_cons_zero, List.set_cons_succ]
      refine take_at (i := 1) (d := some 23) (v := ?v1z6) rfl rfl (by kernel_rfl) (by kernel_rfl) (by kernel_rfl) (fun _ _ _ h => h) (Or.inl ⟨by rfl, ?y1z6⟩) h0 ?r1z6
      case y1z6 => (intro w' hSw; (try dsimp only at hSw); go_simp; try with_reducible rfl)
      try simp only [Act.put, List.setIfInBounds_toArray, List.set_cons_zero, List.set_cons_succ]
      refine take_at (i := 2) (d := some 24) (v := ?v2z6) rfl rfl (by kernel_rfl) (by kernel_rfl) (by kernel_rfl) (fun _ _ _ h => h) (Or.inl ⟨by rfl, ?y2z6⟩) h0 ?r2z6
      case y2z6 => (intro w' hSw; (try dsimp only at hSw); go_simp; try with_reducible rfl)
      try simp only [Act.put, List.setIfInBounds_toArray, List.set_cons_zero, List.set_cons_succ]
      refine take_at (i := 3) (d := some 25) (v := ?v3z6) rfl rfl (by kernel_rfl) (by kernel_rfl) (by kernel_rfl) (fun _ _ _ h => h) (Or.inl ⟨by rfl, ?y3z6⟩) h0 ?r3z6
      case y3z6 => (intro w' hSw; (try dsimp only at hSw); go_simp; try with_reducible rfl)
      try simp only [Act.put, List.setIfInBounds_toArray, List.set_cons_zero, List.set_cons_succ]
      refine take_at (i := 4) (d := some 26) (v := ?v4z6) rfl rfl (by kernel_rfl) (by kernel_rfl) (by kernel_rfl) (fun _ _ _ h => h) (Or.inl ⟨by rfl, ?y4z6⟩) h0 ?r4z6
      case y4z6 => (intro w' hSw; (try dsimp only at hSw); go_simp; try with_reducible rfl)
      try simp only [Act.put, List.setIfInBounds_toArray, List.set_cons_zero, List.set_cons_succ]
      refine take_at (i := 5) (d := some 27) (v := ?v5z6) rfl rfl (by kernel_rfl) (by kernel_rfl) (by kernel_rfl) (fun _ _ _ h => h) (Or.inl ⟨by rfl, ?y5z6⟩) h0 ?r5z6
      case y5z6 => (intro w' hSw; (try dsimp only at hSw); go_simp; try with_reducible rfl)
      try simp only [Act.put, List.setIfInBounds_toArray, List.set_cons_zero, List.set_cons_succ]
      refine wpAnyH_ready (rs := [6]) (by kernel_rfl) (by simp) ?_
      refine AllReadyH.cons rfl (fun K hK => ?_) AllReadyH.nil
      go_simp
      go_at_call 61
      refine (HFT.out _ s (bel2 BR.out BD.out)).mono ?_
      rintro e w9 ⟨rfl, b9⟩
      have B9 : Hid (Below wr.heap.size wr w9) := bel2 BD.out b9
      have XR9 : Hid (Bx w9 w1.heap.size nil none 0) := XR.out.later B9.out
      have K9b : Hid (w9.cell? ⟨w.heap.size, 0, none⟩ = some (.slice oT ns.length capT) ∧ w9.cell? (y.add k) = some (.string s)) := KLA.out _ B9.out
      clear b9
      refine hK.out _ _ K9b.out (fun h1 => ?_)
      clear hK K
      try simp only [Act.put, List.setIfInBounds_toArray, List.set_cons_zero, List.set_cons_succ]
      refine take_at (i := 7) (d := some 29) (v := ?v7z6) rfl rfl (by kernel_rfl) (by kernel_rfl) (by kernel_rfl) (fun _ _ _ h => h) (Or.inl ⟨by rfl, ?y7z6⟩) h1 ?r7z6
      case y7z6 => (intro w' hSw; (try dsimp only at hSw); go_simp; try with_reducible rfl)
      try simp only [Act.put, List.setIfInBounds_toArray, List.set_cons_zero, List.set_cons_succ]
      refine wpAnyH_done (by kernel_rfl) ?_ _
      refine NoPanic.normal ?_
      cases hq : fitsZ ns at' s
      · have HE : Hid (bdE ns at' ss = 1000) := by
          have : fitAll ns at' ss = false := by
            unfold fitAll
            rw [List.all_eq_false]
            exact ⟨s, HSM.out, by rw [hq]; simp⟩
          unfold Hid bdE
          rw [this, Bool.and_false]
          rfl
        have XR : Hid (Bx w9 w1.heap.size nil none 0) := XR9.out
        clear hq
        have u0 := XR.out.c0
        have u1 := XR.out.c1
        have u2 := XR.out.c2
        have u3 := XR.out.c3
        have u4 := XR.out.c4
        have u5 := XR.out.c5
        have u6 := XR.out.c6
        have v0 := XR.out.fz 0
        have v1 := XR.out.fz 1
        have v2 := XR.out.fz 2
        have v3 := XR.out.fz 3
        have v4 := XR.out.fz 4
        have v5 := XR.out.fz 5
        have v6 := XR.out.fz 6
        unfold nil at u0 u1 u2 u3 u4 u5 u6
        obtain ⟨w11, e11, x11, h11, b11⟩ := set7 XR.out nil none 0
        have e11b : (((((((w9).setCell ⟨w1.heap.size, 0, none⟩ (.int .i64 0)).setCell ⟨w1.heap.size, 1, none⟩ (.int .i64 0)).setCell ⟨w1.heap.size, 2, none⟩ (.int .i64 0)).setCell ⟨w1.heap.size, 3, none⟩ (.string ⟨#[]⟩)).setCell ⟨w1.heap.size, 4, none⟩ (.string ⟨#[]⟩)).setCell ⟨w1.heap.size, 5, none⟩ (.string ⟨#[]⟩)).setCell ⟨w1.heap.size, 6, none⟩ (.slice none 0 0) = w11 := e11
        have HB11 : Hid (Below w.heap.size w w11) := (bel2 BR.out B9.out).trans (b11 w.heap.size (by omega))
        have q0 := x11.c0
        have q1 := x11.c1
        have q2 := x11.c2
        have q3 := x11.c3
        have q4 := x11.c4
        have q5 := x11.c5
        have q6 := x11.c6
        unfold nil at q0 q1 q2 q3 q4 q5 q6
        have HQ : Hid (BdQ B ns at' ss w (.returned (.tuple #[.agg #[.int .i64 0, .int .i64 0, .int .i64 0, .string ⟨#[]⟩, .string ⟨#[]⟩, .string ⟨#[]⟩, .slice none 0 0], .int .i64 1000])) w11) := bd_no HE.out (by decide) HB11.out
        clear e11 x11 h11 b11
        go_wp2_with fail
        try rw [e11b]
        exact bodyPost_ret (v := .tuple #[.agg #[.int .i64 0, .int .i64 0, .int .i64 0, .string ⟨#[]⟩, .string ⟨#[]⟩, .string ⟨#[]⟩, .slice none 0 0], .int .i64 1000]) (by simp [results, Tryz.results27, go_sem, q0, q1, q2, q3, q4, q5, q6] <;> rfl) rfl HQ.out
      · have HA3 : Hid (∀ j, j < k + 1 → fitsZ ns at' (ss.getD j ByteArray.empty) = true) := HAL2.out hq
        clear hq
        go_wp2
        go_roundw
        case rel => exact ⟨k + 1, by omega, by go_num, HA3.out, bel2 BL.out B9.out⟩
        case measure => simp [intOf]; omega
    · obtain rfl : k = ss.length := by omega
      have HFA : Hid (fitAll ns at' ss = true) := by
        unfold Hid fitAll
        rw [List.all_eq_true]
        intro s hs
        obtain ⟨i, hi, rfl⟩ := List.getElem_of_mem hs
        have := HALL.out i hi
        rwa [List.getD_eq_getElem?_getD, List.getElem?_eq_getElem hi, Option.getD_some] at this
      obtain ⟨n, rfl, hn, hm⟩ : ∃ n : Nat, at' = (n : Int) ∧ n < ns.length ∧ may ns = true := by
        obtain ⟨n, e, hn, _⟩ := has_of HH.out
        have := HH.out
        unfold hasB at this
        rw [Bool.and_eq_true] at this
        exact ⟨n, e, hn, this.2⟩
      have hmost := (may_of hm).most
      have HBC : Hid (Calls Tryz.prog 62 #[.agg #[.slice oT ns.length capT], .int .i64 (n : Int), .slice o ss.length cap] wr (BuildG B 8 (buildF ns 8 n (ss.map bl)) wr)) := HBR.out n wr rfl hn hm (fit_all HH.out HFA.out) BR.out
      have HEE : Hid (bdE ns (n : Int) ss = if (buildF ns 8 n (ss.map bl)).isSome then 0 else 1001) := by unfold Hid bdE; rw [HH.out, HFA.out]; rfl
      have HAA : Hid (bdA ns (n : Int) ss = if bdE ns (n : Int) ss = 0 then (buildF ns 8 n (ss.map bl)).getD nil else nil) := rfl
      generalize buildF ns 8 n (ss.map bl) = bf at *
      have cT := HCR.out
      clear HFT HNM
      go_wp2_with fail
      refine HBC.out.mono ?_
      rintro e w4 ⟨X, o8, c8, rfl, b4, hX⟩
      have HX : Hid (bf.isSome = true → bf = some X ∧ HoldsO B w4 8 (fun b => wr.heap.size ≤ b) (X.cells o8 c8) X) := hX
      have B4 : Hid (Below w.heap.size w w4) := bel2 BR.out b4
      have XR4 : Hid (Bx w4 w1.heap.size nil none 0) := XR.out.later b4
      obtain ⟨w5, e5', x5, b5, z5⟩ := box7 w4 nil none 0
      have e5 : w4.alloc (.cells #[.int .i64 0, .int .i64 0, .int .i64 0, .string ⟨#[]⟩, .string ⟨#[]⟩, .string ⟨#[]⟩, .slice none 0 0] 27) = w5 := e5'
      have hS4 : w1.heap.size < w4.heap.size := XR4.out.lt
      have XR5 := XR4.out.later b5
      have m0 := x5.c0
      have m1 := x5.c1
      have m2 := x5.c2
      have m3 := x5.c3
      have m4 := x5.c4
      have m5 := x5.c5
      have m6 := x5.c6
      have f0 := x5.fz 0
      have f1 := x5.fz 1
      have f2 := x5.fz 2
      have f3 := x5.fz 3
      have f4 := x5.fz 4
      have f5 := x5.fz 5
      have f6 := x5.fz 6
      unfold nil at m0 m1 m2 m3 m4 m5 m6
      obtain ⟨w6, e6, x6, h6, b6⟩ := set7 x5 X o8 c8
      have X6 : Hid (Bx w6 w4.heap.size X o8 c8) := x6
      have XR : Hid (Bx w6 w1.heap.size nil none 0) := ⟨(h6 _ (by omega)).trans XR5.blk⟩
      have B46 : Hid (Below w4.heap.size w4 w6) := b5.trans (b6 _ (Nat.le_refl _))
      have B6 : Hid (Below w.heap.size w w6) := bel2 B4.out B46.out
      unfold Arr.val
      clear e5' hX b4 x5 b5 z5 x6 h6 b6 XR5 cT
      go_upto_region 9 with fail
      try rw [e6]
      clear m0 m1 m2 m3 m4 m5 m6 f0 f1 f2 f3 f4 f5 f6 e5 e6
      cases hS : bf.isSome
      · have HE : Hid (bdE ns (n : Int) ss = 1001) := by rw [HEE.out, hS]; rfl
        clear hS
        have u0 := XR.out.c0
        have u1 := XR.out.c1
        have u2 := XR.out.c2
        have u3 := XR.out.c3
        have u4 := XR.out.c4
        have u5 := XR.out.c5
        have u6 := XR.out.c6
        have v0 := XR.out.fz 0
        have v1 := XR.out.fz 1
        have v2 := XR.out.fz 2
        have v3 := XR.out.fz 3
        have v4 := XR.out.fz 4
        have v5 := XR.out.fz 5
        have v6 := XR.out.fz 6
        unfold nil at u0 u1 u2 u3 u4 u5 u6
        obtain ⟨w11, e11, x11, h11, b11⟩ := set7 XR.out nil none 0
        have e11b : (((((((w6).setCell ⟨w1.heap.size, 0, none⟩ (.int .i64 0)).setCell ⟨w1.heap.size, 1, none⟩ (.int .i64 0)).setCell ⟨w1.heap.size, 2, none⟩ (.int .i64 0)).setCell ⟨w1.heap.size, 3, none⟩ (.string ⟨#[]⟩)).setCell ⟨w1.heap.size, 4, none⟩ (.string ⟨#[]⟩)).setCell ⟨w1.heap.size, 5, none⟩ (.string ⟨#[]⟩)).setCell ⟨w1.heap.size, 6, none⟩ (.slice none 0 0) = w11 := e11
        have HB11 : Hid (Below w.heap.size w w11) := B6.out.trans (b11 w.heap.size (by omega))
        have q0 := x11.c0
        have q1 := x11.c1
        have q2 := x11.c2
        have q3 := x11.c3
        have q4 := x11.c4
        have q5 := x11.c5
        have q6 := x11.c6
        unfold nil at q0 q1 q2 q3 q4 q5 q6
        have HQ : Hid (BdQ B ns (n : Int) ss w (.returned (.tuple #[.agg #[.int .i64 0, .int .i64 0, .int .i64 0, .string ⟨#[]⟩, .string ⟨#[]⟩, .string ⟨#[]⟩, .slice none 0 0], .int .i64 1001])) w11) := bd_no HE.out (by decide) HB11.out
        clear e11 x11 h11 b11
        go_wp2_with fail
        try rw [e11b]
        exact bodyPost_ret (v := .tuple #[.agg #[.int .i64 0, .int .i64 0, .int .i64 0, .string ⟨#[]⟩, .string ⟨#[]⟩, .string ⟨#[]⟩, .slice none 0 0], .int .i64 1001]) (by simp [results, Tryz.results27, go_sem, q0, q1, q2, q3, q4, q5, q6] <;> rfl) rfl HQ.out
      · obtain ⟨hbf, hho⟩ := HX.out hS
        have HE : Hid (bdE ns (n : Int) ss = 0) := by rw [HEE.out, hS]; rfl
        have HAX : Hid (bdA ns (n : Int) ss = X) := by rw [HAA.out, HE.out, hbf]; rfl
        have HHO : Hid (HoldsO B w4 8 (fun b => wr.heap.size ≤ b) (X.cells o8 c8) X) := hho
        clear hS hbf hho
        have y0 := X6.out.c0
        have y1 := X6.out.c1
        have y2 := X6.out.c2
        have y3 := X6.out.c3
        have y4 := X6.out.c4
        have y5 := X6.out.c5
        have y6 := X6.out.c6
        have u0 := XR.out.c0
        have u1 := XR.out.c1
        have u2 := XR.out.c2
        have u3 := XR.out.c3
        have u4 := XR.out.c4
        have u5 := XR.out.c5
        have u6 := XR.out.c6
        have v0 := XR.out.fz 0
        have v1 := XR.out.fz 1
        have v2 := XR.out.fz 2
        have v3 := XR.out.fz 3
        have v4 := XR.out.fz 4
        have v5 := XR.out.fz 5
        have v6 := XR.out.fz 6
        unfold nil at u0 u1 u2 u3 u4 u5 u6
        obtain ⟨w11, e11, x11, h11, b11⟩ := set7 XR.out X o8 c8
        have e11b : (((((((w6).setCell ⟨w1.heap.size, 0, none⟩ (.int .i64 X.layout)).setCell ⟨w1.heap.size, 1, none⟩ (.int .i64 X.offset)).setCell ⟨w1.heap.size, 2, none⟩ (.int .i64 X.length)).setCell ⟨w1.heap.size, 3, none⟩ (.string X.valid)).setCell ⟨w1.heap.size, 4, none⟩ (.string X.ends)).setCell ⟨w1.heap.size, 5, none⟩ (.string X.data)).setCell ⟨w1.heap.size, 6, none⟩ (.slice o8 X.kids.length c8) = w11 := e11
        have HB11 : Hid (Below w.heap.size w w11) := B6.out.trans (b11 w.heap.size (by omega))
        have q0 := x11.c0
        have q1 := x11.c1
        have q2 := x11.c2
        have q3 := x11.c3
        have q4 := x11.c4
        have q5 := x11.c5
        have q6 := x11.c6
        have HH11 : Hid (HoldsO B w11 8 (fun b => w.heap.size ≤ b) (X.cells o8 c8) X) := HHO.out.lt.stays (fun b hb => (h11 b (by have := XR3.out.lt; have := BL.out.size; omega)).trans (B46.out.block b hb.2)) (fun b hb => by have := BR.out.size; omega)
        have HQ : Hid (BdQ B ns (n : Int) ss w (.returned (.tuple #[.agg #[.int .i64 X.layout, .int .i64 X.offset, .int .i64 X.length, .string X.valid, .string X.ends, .string X.data, .slice o8 X.kids.length c8], .int .i64 0])) w11) := ⟨o8, c8, by rw [HAX.out, HE.out]; rfl, by rw [HAX.out]; exact HH11.out, HB11.out⟩
        clear e11 x11 h11 b11
        go_wp2_with fail
        try rw [e11b]
        exact bodyPost_ret (v := .tuple #[.agg #[.int .i64 X.layout, .int .i64 X.offset, .int .i64 X.length, .string X.valid, .string X.ends, .string X.data, .slice o8 X.kids.length c8], .int .i64 0]) (by simp [results, Tryz.results27, go_sem, q0, q1, q2, q3, q4, q5, q6]) rfl HQ.out
end Go.Proofs.YtcpfhfdgfcilaaaGreatDoor.Arr
