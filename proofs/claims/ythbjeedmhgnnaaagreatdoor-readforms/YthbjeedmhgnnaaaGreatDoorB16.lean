/-
  Several texts in one: What a taker takes: values, behind, take: contracts, by how deep a value stands. · What stands behind a value's first sign; take, at every depth: contracts. · The one value that a text is: only: contract. · The values in a list or in a struct: within: contract. · A value's kind and parts: taken.parts, Parts: contracts. · Which values fit a node, a step down: plain facts. · Digits read one by one, round the corner of 64 bits: plain facts. · Where a value ends, as the document's own answer looks for it: contracts. · Where a value ends, as the document's own answer looks for it, at each depth: contracts.
-/
import Derived.Test.YthbjeedmhgnnaaaGreatDoorB12
import Derived.Test.YthbjeedmhgnnaaaGreatDoorB15
import Derived.Deep.RegionWith
import Derived.Test.YthbjeedmhgnnaaaGreatDoorB01
import Derived.Test.YthbjeedmhgnnaaaGreatDoorB13
import Derived.Test.YthbjeedmhgnnaaaGreatDoorB03
import Derived.WalkKit
import Derived.Test.YthbjeedmhgnnaaaGreatDoorB02
import Derived.Deep.CutBlock
namespace Go.Proofs.YthbjeedmhgnnaaaGreatDoor.Val
open Go.ChangeShapes Go.WideShapes Go.ChangeAt Go.RowKit

end Go.Proofs.YthbjeedmhgnnaaaGreatDoor.Val
namespace Go.Proofs.YthbjeedmhgnnaaaGreatDoor.Val
open Go.ChangeShapes Go.WideShapes Go.ChangeAt Go.RowKit

/-- A value that was taken, in a block. -/
structure Bx (w : World) (g : Nat) (k : Int) (v c : ByteArray) : Prop where
  blk : w.heap[g]? = some (.cells #[.int .i64 k, .string v, .string c] 150 (0, 0))
theorem Bx.lt {w : World} {g : Nat} {k : Int} {v c : ByteArray} (h : Bx w g k v c) : g < w.heap.size := by
  by_cases d : g < w.heap.size
  · exact d
  · have := h.blk
    rw [Array.getElem?_eq_none (by omega)] at this
    cases this
theorem Bx.c0 {w : World} {g : Nat} {k : Int} {v c : ByteArray} (h : Bx w g k v c) : w.cell? ⟨g, 0, none⟩ = some (.int .i64 k) := by simp [World.cell?, h.blk]
theorem Bx.c1 {w : World} {g : Nat} {k : Int} {v c : ByteArray} (h : Bx w g k v c) : w.cell? ⟨g, 1, none⟩ = some (.string v) := by simp [World.cell?, h.blk]
theorem Bx.c2 {w : World} {g : Nat} {k : Int} {v c : ByteArray} (h : Bx w g k v c) : w.cell? ⟨g, 2, none⟩ = some (.string c) := by simp [World.cell?, h.blk]
theorem Bx.fz {w : World} {g : Nat} {k : Int} {v c : ByteArray} (h : Bx w g k v c) (o : Nat) : w.frozen? ⟨g, o, none⟩ = false := by simp [World.frozen?, h.blk]
theorem Bx.later {w w' : World} {g : Nat} {k : Int} {v c : ByteArray} (h : Bx w g k v c) (hb : Below w.heap.size w w') : Bx w' g k v c := ⟨(hb.block g h.lt).trans h.blk⟩
theorem Bx.put {w : World} {g : Nat} {k : Int} {v c : ByteArray} (h : Bx w g k v c) (k' : Int) (v' c' : ByteArray) :
    ∃ w1, ((w.setCell ⟨g, 0, none⟩ (.int .i64 k')).setCell ⟨g, 1, none⟩ (.string v')).setCell ⟨g, 2, none⟩ (.string c') = w1 ∧ Bx w1 g k' v' c' ∧ Mv g w w1 := by
  refine ⟨_, rfl, ⟨?_⟩, ((Mv.set g w 0 _).trans (Mv.set g _ 1 _)).trans (Mv.set g _ 2 _)⟩
  simp only [World.setCell, Array.getElem?_modify, if_true, h.blk, Option.map_some]
  rfl
theorem Mv.own {b g : Nat} {u v w : World} (h : Mv b u v) (k : Mv g v w) (hg : u.heap.size ≤ g) : Mv b u w :=
  ⟨k.os.trans h.os, k.tape.trans h.tape, k.output.trans h.output, Nat.le_trans h.size k.size, fun i hi hb => (k.block i (Nat.lt_of_lt_of_le hi h.size) (by omega)).trans (h.block i hi hb)⟩
end Go.Proofs.YthbjeedmhgnnaaaGreatDoor.Val
namespace Go.Proofs.YthbjeedmhgnnaaaGreatDoor.Val
open Go.ChangeShapes Go.WideShapes Go.ChangeAt Go.RowKit

theorem HomeE.six {w : World} (h : HomeE w) : 4 ≤ w.heap.size := by
  have hv : w.var? Tryz.prog "internal/strconv.uint64pow10" = some _ := h.tab
  unfold World.var? at hv
  rw [gTab, Option.bind_some] at hv
  by_cases c : 3 < w.heap.size
  · omega
  · rw [Array.getElem?_eq_none (by omega)] at hv
    cases hv
end Go.Proofs.YthbjeedmhgnnaaaGreatDoor.Val
namespace Go.Proofs.YthbjeedmhgnnaaaGreatDoor.Val
open Go.ChangeShapes Go.WideShapes Go.ChangeAt Go.RowKit
open Tree (own_slice own_mono)

theorem Mv.grown {b : Nat} {u v w : World} {row : Option Nat} (h : Mv b u v) (hg : v.grownBy w row) (hr : ∀ k, row = some k → u.heap.size ≤ k) : Mv b u w :=
  ⟨hg.os.trans h.os, hg.tape.trans h.tape, hg.output.trans h.output, Nat.le_trans h.size hg.size, fun k hk hb => (hg.block k (Nat.lt_of_lt_of_le hk h.size) (fun e => by have := hr k e.symm; omega)).trans (h.block k hk hb)⟩
theorem Tk.grown {w w' : World} {b : Nat} {s : ByteArray} {p : Nat} {row : Option Nat} (h : Tk w b s p) (hg : w.grownBy w' row) (hr : ∀ k, row = some k → b < k) : Tk w' b s p :=
  ⟨(hg.block b h.lt (fun e => by have := hr b e.symm; omega)).trans h.blk⟩
end Go.Proofs.YthbjeedmhgnnaaaGreatDoor.Val
namespace Go.Proofs.YthbjeedmhgnnaaaGreatDoor.Val
open Go.ChangeShapes Go.WideShapes Go.ChangeAt Go.RowKit
open Tree (own_slice own_mono)
open Texts (cellsT cellsT_snoc)

theorem info9 : (Tryz.prog.info? 9).map (fun i => (i.zero, i.size, i.bytes)) = some (some (.string ⟨#[]⟩), 1, 16) := by kernel_rfl
/-- A row of one text. -/
theorem own_one (w : World) (s : ByteArray) : (w.alloc (.cells #[.string s] 9)).ownsRow w.heap.size 9 1 (.slice (some ⟨w.heap.size, 0, none⟩) 1 1) 1 (cellsT [s]) :=
  ⟨rfl, .inr ⟨w.heap.size, 1, #[.string s], rfl, Nat.le_refl _, heap_alloc_new _ _, Nat.le_refl _, by unfold maxLen; omega, rfl, rfl⟩⟩
/-- What a value that was taken is made of. -/
def PartsA (k : Int) (c : ByteArray) (ps : List ByteArray) : Prop := k = -1 ∧ ps = [] ∨ (k = 3 ∨ k = 4) ∧ Row4 c ps ∨ (k ≠ -1 ∧ k ≠ 3 ∧ k ≠ 4) ∧ ps = [c]
theorem Bx.one (w : World) (k : Int) (v c : ByteArray) : Bx (w.alloc (.cells #[.int .i64 k, .string v, .string c] 150)) w.heap.size k v c := ⟨heap_alloc_new _ _⟩
/-- Values that were taken, from an address on. -/
structure KLies (w : World) (x : Addr) (vs : List ByteArray) : Prop where
  kind : ∀ i, i < vs.length → w.cell? (x.add (i * 3)) = some (.int .i64 (kindOf (bl (vs.getD i ByteArray.empty))))
  all : ∀ i, i < vs.length → w.cell? (x.add (i * 3 + 1)) = some (.string (vs.getD i ByteArray.empty))
  body : ∀ i, i < vs.length → w.cell? (x.add (i * 3 + 2)) = some (.string (bodyS (vs.getD i ByteArray.empty)))
theorem KLies.later {w w' : World} {x : Addr} {vs : List ByteArray} (h : KLies w x vs) (hb : Below w.heap.size w w') : KLies w' x vs :=
  ⟨fun i hi => Tree.cell_later hb (h.kind i hi), fun i hi => Tree.cell_later hb (h.all i hi), fun i hi => Tree.cell_later hb (h.body i hi)⟩
theorem mk_size (l : List UInt8) : (⟨l.toArray⟩ : ByteArray).size = l.length := by rw [← bl_length, bl_mk]
theorem flat_mk (ps : List (List UInt8)) : flat (ps.map fun l => (⟨l.toArray⟩ : ByteArray)) = ps.flatten := by
  unfold flat
  rw [List.map_map, show (bl ∘ fun l : List UInt8 => (⟨l.toArray⟩ : ByteArray)) = id from funext fun l => bl_mk l, List.map_id]
theorem row_mk {v : ByteArray} {ps : List (List UInt8)} (h1 : bodyOf (bl v) = ps.flatten) (h2 : ∀ p ∈ ps, val 3 p = some p.length) : Row4 (bodyS v) (ps.map fun l => (⟨l.toArray⟩ : ByteArray)) := by
  refine ⟨by rw [bl_bodyS, h1, flat_mk], fun u hu => ?_⟩
  obtain ⟨p, hp, rfl⟩ := List.mem_map.1 hu
  rw [bl_mk, mk_size]
  exact val_up 3 4 (by omega) _ _ (h2 p hp)
theorem parts_told {s : ByteArray} (hv : isVal (bl s)) : ∃ ps, partsS s = some (kindOf (bl s), ps) ∧ PartsA (kindOf (bl s)) (bodyS s) ps := by
  obtain ⟨k, ps, h, hm⟩ := parts_made hv
  have hs : partsS s = some (k, ps.map fun l => (⟨l.toArray⟩ : ByteArray)) := by
    unfold partsS
    rw [h]
    rfl
  rcases hm with ⟨rfl, rfl, e⟩ | ⟨x, _, rfl, rfl, e⟩ | ⟨b, rfl, rfl, e⟩ | ⟨t, rfl, rfl, e⟩ | ⟨rfl, e, hp⟩ | ⟨rfl, e, hp⟩
  · have hk : kindOf (bl s) = -1 := by rw [e]; rfl
    rw [hk]
    exact ⟨_, hs, .inl ⟨rfl, rfl⟩⟩
  · have hk : kindOf (bl s) = 0 := by rw [e]; rfl
    have hb : bodyOf (bl s) = intD x := by
      rw [e]
      show (intD x ++ [59]).dropLast = _
      rw [List.dropLast_concat]
    rw [hk]
    exact ⟨_, hs, .inr (.inr ⟨by decide, by unfold bodyS; rw [hb]; rfl⟩)⟩
  · have hk : kindOf (bl s) = 1 := by rw [e]; cases b <;> rfl
    have hb : bodyOf (bl s) = boolM b := by rw [e]; cases b <;> rfl
    rw [hk]
    exact ⟨_, hs, .inr (.inr ⟨by decide, by unfold bodyS; rw [hb]; rfl⟩)⟩
  · have hk : kindOf (bl s) = 2 := by rw [e]; rfl
    have hb : bodyOf (bl s) = t := by
      rw [e]
      unfold bytesM
      have hs2 : seek 58 (dig t.length ++ 58 :: t) = some (dig t.length).length := by
        refine seek_app _ _ fun b hb e => ?_
        have := dig_digit _ b hb
        rw [e] at this
        exact absurd this.2 (by decide)
      rw [bodyOf_s, hs2]
      show (dig t.length ++ 58 :: t).drop ((dig t.length).length + 1) = t
      rw [show dig t.length ++ 58 :: t = (dig t.length ++ [58]) ++ t from by simp, List.drop_append_of_le_length (by simp), List.drop_eq_nil_of_le (by simp)]
      rfl
    rw [hk]
    exact ⟨_, hs, .inr (.inr ⟨by decide, by unfold bodyS; rw [hb]; rfl⟩)⟩
  · have hk : kindOf (bl s) = 3 := by rw [e]; rfl
    have hb : bodyOf (bl s) = ps.flatten := by
      rw [e]
      show (ps.flatten ++ [93]).dropLast = _
      rw [List.dropLast_concat]
    rw [hk]
    exact ⟨_, hs, .inr (.inl ⟨.inl rfl, row_mk hb hp⟩)⟩
  · have hk : kindOf (bl s) = 4 := by rw [e]; rfl
    have hb : bodyOf (bl s) = ps.flatten := by
      rw [e]
      show (ps.flatten ++ [125]).dropLast = _
      rw [List.dropLast_concat]
    rw [hk]
    exact ⟨_, hs, .inr (.inl ⟨.inr rfl, row_mk hb hp⟩)⟩
theorem body_size (s : ByteArray) (hs : s.size ≤ 65536) : (bodyS s).size ≤ 65536 := by
  rw [← bl_length, bl_bodyS]
  rw [← bl_length] at hs
  cases h : bl s with
  | nil => exact Nat.zero_le _
  | cons b r =>
    rw [h] at hs
    have hr : r.length ≤ 65535 := by simpa using hs
    rw [bodyOf]
    split
    · exact Nat.zero_le _
    · split
      · rw [List.length_dropLast]
        omega
      · split
        · split
          · exact Nat.zero_le _
          · rw [List.length_drop]
            omega
        · simp
/-- What Parts tells of a text. -/
def TellA (s : ByteArray) (k : Int) (ps : List ByteArray) (E : Int) : Prop := partsS s = some (k, ps) ∧ E = 0 ∨ partsS s = none ∧ k = 0 ∧ ps = [] ∧ E = 700
end Go.Proofs.YthbjeedmhgnnaaaGreatDoor.Val
namespace Go.Proofs.YthbjeedmhgnnaaaGreatDoor.Val
open Tree

theorem below_up {f : Nat} (hf : f ≤ 5) {l : List UInt8} {k : Nat} (h : below f l = some k) : val 4 l = some k := by
  cases f with
  | zero => cases h
  | succ f => exact val_up f 4 (by omega) _ _ h
theorem isVal_below {f : Nat} (hf : f ≤ 5) {v : ByteArray} (hs : v.size ≤ 65536) (h : below f (bl v) = some v.size) : isVal (bl v) :=
  ⟨by rw [bl_length]; exact hs, by rw [bl_length]; exact below_up hf h⟩
theorem nest_parts {f : Nat} (hf : f ≤ 4) {v : ByteArray} (hs : v.size ≤ 65536) (h : val f (bl v) = some v.size) (hk : kindOf (bl v) = 3 ∨ kindOf (bl v) = 4) :
    ∃ ps : List ByteArray, partsS v = some (kindOf (bl v), ps) ∧ Row4 (bodyS v) ps ∧ ∀ p ∈ ps, below f (bl p) = some p.size := by
  rw [← bl_length] at h
  obtain ⟨qs, h1, h2, h3, h4, h5⟩ := row_of_nest hf h hk
  have h6 : ∀ p ∈ qs, val 3 p = some p.length := by
    intro p hp
    have := h3 p hp
    cases f with
    | zero => cases this
    | succ f => exact val_up f 3 (by omega) _ _ this
  refine ⟨qs.map fun l => ⟨l.toArray⟩, ?_, row_mk h1 h6, fun p hp => ?_⟩
  · unfold partsS
    rcases hk with c | c
    · have e := h4 c
      have hl : (listM qs).length ≤ 65536 := by rw [← e, bl_length]; exact hs
      rw [c, e, parts_list qs h6 hl]
      rfl
    · have e := h5 c
      have hl : (structM qs).length ≤ 65536 := by rw [← e, bl_length]; exact hs
      rw [c, e, parts_struct qs h6 hl]
      rfl
  · obtain ⟨q, hq, rfl⟩ := List.mem_map.1 hp
    rw [bl_mk, mk_size]
    exact h3 q hq
theorem fitsF_succ (ns : List Nd) (f a : Nat) (v : ByteArray) : fitsF ns (f + 1) a v = match partsS v with
    | none => false
    | some (k, ps) =>
      if k < 0 then (nd ns a).null
      else if k ≠ (nd ns a).kind then false
      else if k = 2 then decide ((ps.getD 0 ByteArray.empty).size ≤ 16)
      else if k = 3 then decide (ps.length ≤ 64) && ps.all (fitsF ns f ((kids ns a).getD 0 0))
      else if k = 4 then decide (ps.length = (kids ns a).length) && ((kids ns a).zip ps).all fun q => fitsF ns f q.1 q.2
      else true := rfl
theorem kindOf_in (l : List UInt8) : -1 ≤ kindOf l ∧ kindOf l ≤ 4 := by
  cases l with
  | nil => exact ⟨by decide, by decide⟩
  | cons b r =>
    rw [kindOf]
    split
    · exact ⟨by decide, by decide⟩
    · split
      · exact ⟨by decide, by decide⟩
      · split
        · exact ⟨by decide, by decide⟩
        · split
          · exact ⟨by decide, by decide⟩
          · split
            · exact ⟨by decide, by decide⟩
            · exact ⟨by decide, by decide⟩
theorem fits_null {ns : List Nd} {f a : Nat} (hf : f ≤ 4) {v : ByteArray} (hs : v.size ≤ 65536) (h : val f (bl v) = some v.size) (hk : kindOf (bl v) = -1) : fitsF ns (f + 1) a v = (nd ns a).null := by
  obtain ⟨ps, h1, _⟩ := parts_told (isVal_below (f := f + 1) (by omega) hs h)
  rw [fitsF_succ, h1]
  show (if kindOf (bl v) < 0 then _ else _) = _
  rw [if_pos (by omega)]
theorem fits_other {ns : List Nd} {f a : Nat} (hf : f ≤ 4) {v : ByteArray} (hs : v.size ≤ 65536) (h : val f (bl v) = some v.size) (hk : kindOf (bl v) ≠ -1) (hn : kindOf (bl v) ≠ (nd ns a).kind) : fitsF ns (f + 1) a v = false := by
  obtain ⟨ps, h1, _⟩ := parts_told (isVal_below (f := f + 1) (by omega) hs h)
  have := kindOf_in (bl v)
  rw [fitsF_succ, h1]
  show (if kindOf (bl v) < 0 then _ else if kindOf (bl v) ≠ (nd ns a).kind then _ else _) = _
  rw [if_neg (by omega), if_pos hn]
theorem fits_bytes {ns : List Nd} {f a : Nat} (hf : f ≤ 4) {v : ByteArray} (hs : v.size ≤ 65536) (h : val f (bl v) = some v.size) (hk : kindOf (bl v) = 2) (hn : (nd ns a).kind = 2) : fitsF ns (f + 1) a v = decide ((bodyS v).size ≤ 16) := by
  obtain ⟨ps, h1, h2⟩ := parts_told (isVal_below (f := f + 1) (by omega) hs h)
  rw [hk] at h1 h2
  rw [fitsF_succ, h1]
  show (if (2 : Int) < 0 then _ else if (2 : Int) ≠ (nd ns a).kind then _ else if (2 : Int) = 2 then decide ((ps.getD 0 ByteArray.empty).size ≤ 16) else _) = _
  rw [if_neg (by decide), if_neg (by rw [hn]; decide), if_pos rfl]
  rcases h2 with ⟨c, _⟩ | ⟨c, _⟩ | ⟨_, rfl⟩
  · cases c
  · rcases c with c | c <;> cases c
  · rfl
theorem fits_leaf {ns : List Nd} {f a : Nat} (hf : f ≤ 4) {v : ByteArray} (hs : v.size ≤ 65536) (h : val f (bl v) = some v.size) (hk : kindOf (bl v) = 0 ∨ kindOf (bl v) = 1) (hn : kindOf (bl v) = (nd ns a).kind) : fitsF ns (f + 1) a v = true := by
  obtain ⟨ps, h1, h2⟩ := parts_told (isVal_below (f := f + 1) (by omega) hs h)
  rw [fitsF_succ, h1]
  show (if kindOf (bl v) < 0 then _ else if kindOf (bl v) ≠ (nd ns a).kind then _ else if kindOf (bl v) = 2 then _ else if kindOf (bl v) = 3 then _ else if kindOf (bl v) = 4 then _ else true) = _
  rw [if_neg (by omega), if_neg (by rw [hn]; exact fun c => c rfl), if_neg (by omega), if_neg (by omega), if_neg (by omega)]
theorem fits_list {ns : List Nd} {f a : Nat} {v : ByteArray} {ps : List ByteArray} (h1 : partsS v = some (kindOf (bl v), ps)) (hk : kindOf (bl v) = 3) (hn : (nd ns a).kind = 3) : fitsF ns (f + 1) a v = (decide (ps.length ≤ 64) && ps.all (fitsF ns f ((kids ns a).getD 0 0))) := by
  rw [hk] at h1
  rw [fitsF_succ, h1]
  show (if (3 : Int) < 0 then _ else if (3 : Int) ≠ (nd ns a).kind then _ else if (3 : Int) = 2 then _ else if (3 : Int) = 3 then _ else _) = _
  rw [if_neg (by decide), if_neg (by rw [hn]; decide), if_neg (by decide), if_pos rfl]
theorem fits_struct {ns : List Nd} {f a : Nat} {v : ByteArray} {ps : List ByteArray} (h1 : partsS v = some (kindOf (bl v), ps)) (hk : kindOf (bl v) = 4) (hn : (nd ns a).kind = 4) : fitsF ns (f + 1) a v = (decide (ps.length = (kids ns a).length) && ((kids ns a).zip ps).all fun q => fitsF ns f q.1 q.2) := by
  rw [hk] at h1
  rw [fitsF_succ, h1]
  show (if (4 : Int) < 0 then _ else if (4 : Int) ≠ (nd ns a).kind then _ else if (4 : Int) = 2 then _ else if (4 : Int) = 3 then _ else if (4 : Int) = 4 then _ else _) = _
  rw [if_neg (by decide), if_neg (by rw [hn]; decide), if_neg (by decide), if_neg (by decide), if_pos rfl]
theorem allTo_congr {p q : Nat → Bool} : ∀ {n : Nat}, (∀ i, i < n → p i = q i) → allTo p n = allTo q n
  | 0, _ => rfl
  | n + 1, h => by
    show (allTo p n && p n) = (allTo q n && q n)
    rw [allTo_congr (n := n) (fun i hi => h i (by omega)), h n (Nat.lt_succ_self _)]
/-- All of a list, by places. -/
theorem all_to (ps : List ByteArray) (q : ByteArray → Bool) : ps.all q = allTo (fun i => q (ps.getD i ByteArray.empty)) ps.length := by
  have key : ∀ k, k ≤ ps.length → (ps.take k).all q = allTo (fun i => q (ps.getD i ByteArray.empty)) k := by
    intro k
    induction k with
    | zero => intro _; rfl
    | succ k ih =>
      intro hk
      rw [take_text ps k hk, List.all_append, ih (by omega), allTo]
      simp
  have := key ps.length (Nat.le_refl _)
  rw [List.take_length] at this
  exact this
theorem zip_to (ks : List Nat) (ps : List ByteArray) (h : ps.length = ks.length) (q : Nat → ByteArray → Bool) : ((ks.zip ps).all fun x => q x.1 x.2) = allTo (fun i => q (ks.getD i 0) (ps.getD i ByteArray.empty)) ks.length := by
  have key : ∀ k, k ≤ ks.length → ((ks.take k).zip (ps.take k)).all (fun x => q x.1 x.2) = allTo (fun i => q (ks.getD i 0) (ps.getD i ByteArray.empty)) k := by
    intro k
    induction k with
    | zero => intro _; rfl
    | succ k ih =>
      intro hk
      have hkt : ks.take (k + 1) = ks.take k ++ [ks.getD k 0] := by rw [List.take_succ_eq_append_getElem hk, List.getD_eq_getElem?_getD, List.getElem?_eq_getElem hk]; rfl
      rw [take_text ps k (by omega), hkt, List.zip_append (by rw [List.length_take, List.length_take]; omega), List.all_append, ih (by omega), allTo]
      simp
  have := key ks.length (Nat.le_refl _)
  rw [List.take_length, ← h, List.take_length, h] at this
  exact this
/-- Enough is enough. -/
theorem fits_fuel {ns : List Nd} : ∀ (f g a : Nat) (v : ByteArray), f ≤ 5 → f ≤ g → v.size ≤ 65536 → below f (bl v) = some v.size → fitsF ns g a v = fitsF ns f a v := by
  intro f
  induction f with
  | zero => intro g a v _ _ _ h; cases h
  | succ f ih =>
    intro g a v hf hg hs h
    obtain ⟨g, rfl⟩ : ∃ x, g = x + 1 := ⟨g - 1, by omega⟩
    have hv : val f (bl v) = some v.size := h
    by_cases hk : kindOf (bl v) = 3 ∨ kindOf (bl v) = 4
    · obtain ⟨ps, h1, h2, h3⟩ := nest_parts (by omega) hs hv hk
      have hsz : ∀ p ∈ ps, p.size ≤ 65536 := fun p hp => by
        have hb := body_size v hs
        obtain ⟨i, hi, e⟩ := List.getElem_of_mem hp
        have := h2.pos_le (i + 1)
        rw [pos_succ ps i hi, getD_text ps i hi, e] at this
        omega
      rw [fitsF_succ, fitsF_succ, h1]
      simp only
      have e1 : ps.all (fitsF ns g ((kids ns a).getD 0 0)) = ps.all (fitsF ns f ((kids ns a).getD 0 0)) := by
        rw [all_to, all_to]
        refine allTo_congr fun i hi => ?_
        have hm := getD_memT ps i hi
        exact ih g _ _ (by omega) (by omega) (hsz _ hm) (h3 _ hm)
      have e2 : (((kids ns a).zip ps).all fun q => fitsF ns g q.1 q.2) = (((kids ns a).zip ps).all fun q => fitsF ns f q.1 q.2) := by
        rw [Bool.eq_iff_iff, List.all_eq_true, List.all_eq_true]
        constructor
        · intro hh q hq
          have hm := (List.of_mem_zip hq).2
          rw [← ih g q.1 q.2 (by omega) (by omega) (hsz _ hm) (h3 _ hm)]
          exact hh q hq
        · intro hh q hq
          have hm := (List.of_mem_zip hq).2
          rw [ih g q.1 q.2 (by omega) (by omega) (hsz _ hm) (h3 _ hm)]
          exact hh q hq
      rw [e1, e2]
    · obtain ⟨ps, h1, _⟩ := parts_told (isVal_below hf hs h)
      rw [fitsF_succ, fitsF_succ, h1]
      simp only
      have c3 : ¬ kindOf (bl v) = 3 := fun c => hk (.inl c)
      have c4 : ¬ kindOf (bl v) = 4 := fun c => hk (.inr c)
      rw [if_neg c3, if_neg c4, if_neg c3, if_neg c4]
end Go.Proofs.YthbjeedmhgnnaaaGreatDoor.Val
namespace Go.Proofs.YthbjeedmhgnnaaaGreatDoor.Val
open Go.RowKit

/-- What is read of digits up to a place, with the sign. -/
def evalW (l : List UInt8) (i : Nat) : Int := if l.getD 0 0 = 45 then - evalN ((l.drop 1).take (i - 1)) else evalN (l.take i)
theorem evalW_zero (l : List UInt8) : evalW l 0 = 0 := by
  unfold evalW
  split
  · simp [evalN_nil]
  · rw [List.take_zero, evalN_nil]
theorem evalW_one (l : List UInt8) (h : l.getD 0 0 = 45) : evalW l 1 = 0 := by
  unfold evalW
  rw [if_pos h]
  simp [evalN_nil]
theorem evalW_all (l : List UInt8) : evalW l l.length = evalZ l := by
  unfold evalW
  by_cases h : l.getD 0 0 = 45
  · rw [if_pos h]
    have hl : 0 < l.length := by
      cases l with
      | nil => exact absurd h (by decide)
      | cons b r => exact Nat.succ_pos _
    rw [evalZ_sign h hl, List.take_of_length_le (by rw [List.length_drop]; exact Nat.le_refl _)]
  · rw [if_neg h, evalZ_plain h, List.take_length]
theorem evalW_neg (l : List UInt8) (i : Nat) (h : l.getD 0 0 = 45) (h1 : 1 ≤ i) (hi : i < l.length) : evalW l (i + 1) = 10 * evalW l i - (((l.getD i 0).toNat : Int) - 48) := by
  unfold evalW
  rw [if_pos h, if_pos h]
  have hd : i - 1 < (l.drop 1).length := by rw [List.length_drop]; omega
  have := evalN_take_succ (l.drop 1) (i - 1) hd
  rw [show i + 1 - 1 = i - 1 + 1 from by omega, this]
  have e : (l.drop 1).getD (i - 1) 0 = l.getD i 0 := by
    rw [List.getD_eq_getElem?_getD, List.getElem?_drop, ← List.getD_eq_getElem?_getD, show 1 + (i - 1) = i from by omega]
  rw [e]
  omega
theorem evalW_pos (l : List UInt8) (i : Nat) (h : l.getD 0 0 ≠ 45) (hi : i < l.length) : evalW l (i + 1) = 10 * evalW l i + (((l.getD i 0).toNat : Int) - 48) := by
  unfold evalW
  rw [if_neg h, if_neg h]
  exact evalN_take_succ l i hi
/-- A number within 64 bits that is another round the corner. -/
def At64 (x e : Int) : Prop := in64 x ∧ (x - e) % 18446744073709551616 = 0
theorem At64.zero : At64 0 0 := ⟨⟨by omega, by omega⟩, rfl⟩
theorem At64.neg {x e d y f : Int} (h : At64 x e) (hy : y = wrap64 (wrap64 (10 * x) - d)) (hf : f = 10 * e - d) : At64 y f := by
  subst hy hf
  unfold At64 in64 wrap64 at *
  omega
theorem At64.pos {x e d y f : Int} (h : At64 x e) (hy : y = wrap64 (wrap64 (10 * x) + d)) (hf : f = 10 * e + d) : At64 y f := by
  subst hy hf
  unfold At64 in64 wrap64 at *
  omega
end Go.Proofs.YthbjeedmhgnnaaaGreatDoor.Val
namespace Go.Proofs.YthbjeedmhgnnaaaGreatDoor.Val
open Go.ChangeShapes Go.WideShapes Go.ChangeAt Go.RowKit

/-- Where a sign is, from a place on, near by. -/
def UptoA (s : ByteArray) (p : Nat) (c : UInt8) (r : Int) : Prop := (∃ k : Nat, r = (k : Int) ∧ FirstAt s p c k ∧ k < p + 22) ∨ r = -1 ∧ ∀ j, p ≤ j → j < s.size → j < p + 22 → (bl s).getD j 0 ≠ c
set_option maxRecDepth 20000 in
set_option maxHeartbeats 800000 in
theorem uptoR (s : ByteArray) (p : Nat) (c : UInt8) (hs : s.size ≤ 65536) (hp : p ≤ 65536) (w : World) :
    Calls Tryz.prog 80 #[.string s, .int .i64 (p : Int), .int .u8 ((c.toNat : Nat) : Int)] w fun r w' => ∃ z, r = .returned (.int .i64 z) ∧ UptoA s p c z ∧ w' = w := by
  go_enter Tryz.func80, Tryz.ntmps80
  go_wp2_with fail
  go_loop [7] (fun t => ∃ k : Nat, p ≤ k ∧ k ≤ p + 22 ∧ t = .int .i64 (k : Int) ∧ ∀ j, p ≤ j → j < k → (bl s).getD j 0 ≠ c) (fun t => p + 22 - (intOf t).toNat)
  case atStart => exact ⟨p, Nat.le_refl _, by omega, rfl, fun j h1 h2 => by omega⟩
  case round =>
    obtain ⟨k, h1, h2, rfl, hno⟩ := hrel
    have HNO : Hid (∀ j, p ≤ j → j < k → (bl s).getD j 0 ≠ c) := hno
    clear hno
    by_cases ha : k < s.size
    · by_cases hb : k < p + 22
      · have HAT : Hid (s[k] = (bl s).getD k 0) := bl_at s k ha
        by_cases hc : (bl s).getD k 0 = c
        · have he : (((s[k].toNat : Nat) : Int) == ((c.toNat : Nat) : Int)) = true := by rw [HAT.out, hc, beq_iff_eq]
          have H : Hid (UptoA s p c (k : Int)) := .inl ⟨k, rfl, ⟨h1, ha, hc, HNO.out⟩, hb⟩
          clear hc HNO HAT
          go_wp2
          go_ret
          exact ⟨_, rfl, H.out, rfl⟩
        · have he : (((s[k].toNat : Nat) : Int) == ((c.toNat : Nat) : Int)) = false := by
            rw [HAT.out, beq_eq_false_iff_ne]
            intro e
            exact hc (UInt8.toNat_inj.1 (by omega))
          have HN : Hid (∀ j, p ≤ j → j < k + 1 → (bl s).getD j 0 ≠ c) := fun j j1 j2 => by
            by_cases e : j = k
            · rw [e]; exact hc
            · exact HNO.out j j1 (by omega)
          clear hc HNO HAT
          go_wp2
          go_round
          case rel => exact ⟨k + 1, by omega, by omega, by go_num, HN.out⟩
          case measure => simp [intOf]; omega
      · have H : Hid (UptoA s p c (-1)) := .inr ⟨rfl, fun j j1 _ j3 => HNO.out j j1 (by omega)⟩
        go_wp2
        go_ret
        exact ⟨_, rfl, H.out, rfl⟩
    · have H : Hid (UptoA s p c (-1)) := .inr ⟨rfl, fun j j1 j2 _ => HNO.out j j1 (by omega)⟩
      go_wp2
      go_ret
      exact ⟨_, rfl, H.out, rfl⟩
/-- What is read of a text as a number. -/
def WholeA (s : ByteArray) (x : Int) : Prop := ∀ y, numOf (bl s) = some y → x = y
theorem wholeA_none {s : ByteArray} {x : Int} (h : numOf (bl s) = none) : WholeA s x := fun y c => by rw [h] at c; cases c
theorem wholeA_some {s : ByteArray} {x : Int} (h : numOf (bl s) = some x) : WholeA s x := fun y c => by rw [h] at c; injection c
theorem text_eq {l : List UInt8} {s : ByteArray} (h : l = bl s) : mk l = s := by rw [h]; exact mk_of s
set_option maxRecDepth 20000 in
set_option maxHeartbeats 1600000 in
theorem wholeR (s : ByteArray) (hs : s.size ≤ 65536) (w : World) :
    Calls Tryz.prog 108 #[.string s] w fun r w' => ∃ x, r = .returned (.tuple #[.int .i64 x, .bool (numOf (bl s)).isSome]) ∧ WholeA s x ∧ Below w.heap.size w w' := by
  have HLEN : Hid ((bl s).length = s.size) := bl_length s
  go_enter Tryz.func108, Tryz.ntmps108
  go_wp2_with fail
  go_loop [4, 5] (fun v t => ∃ (k : Nat) (x : Int), k ≤ s.size ∧ t = .int .i64 (k : Int) ∧ v = .int .i64 x ∧ At64 x (evalW (bl s) k)) (fun _ t => s.size - (intOf t).toNat)
  case atStart => exact ⟨0, 0, Nat.zero_le _, rfl, rfl, by rw [evalW_zero]; exact At64.zero⟩
  case round =>
    obtain ⟨k, x, hk, rfl, rfl, hx⟩ := hrel
    have HX : Hid (At64 x (evalW (bl s) k)) := hx
    clear hx
    by_cases hend : k < s.size ∧ s.size < 21
    · obtain ⟨ha, hb⟩ := hend
      have HAT : Hid (s[k] = (bl s).getD k 0) := bl_at s k ha
      have hpos : 0 < s.size := by omega
      have HAZ : Hid (s[0] = (bl s).getD 0 0) := bl_at s 0 hpos
      by_cases hsg : k = 0 ∧ (bl s).getD 0 0 = 45
      · obtain ⟨rfl, h45⟩ := hsg
        have he : ((s[0].toNat : Nat) : Int) = 45 := by rw [HAZ.out, h45]; rfl
        have HN : Hid (At64 x (evalW (bl s) 1)) := by
          have := HX.out
          rw [evalW_zero] at this
          unfold Hid
          rw [evalW_one _ h45]
          exact this
        clear h45 HAZ HAT HX
        go_wp2
        go_round
        case rel => exact ⟨1, x, by omega, by go_num, rfl, HN.out⟩
        case measure => simp [intOf]; omega
      · have HK0 : Hid (k = 0 → ((s[k].toNat : Nat) : Int) ≠ 45) := by
          rintro rfl c
          refine hsg ⟨rfl, ?_⟩
          rw [HAZ.out] at c
          exact UInt8.toNat_inj.1 (by show _ = 45; omega)
        by_cases hdg : 48 ≤ s[k].toNat ∧ s[k].toNat ≤ 57
        · obtain ⟨d1, d2⟩ := hdg
          have hne : ((s[k].toNat : Nat) : Int) ≠ 45 := by omega
          by_cases h45 : (bl s).getD 0 0 = 45
          · have h1 : 1 ≤ k := by
              rcases Nat.eq_zero_or_pos k with e | e
              · exact absurd ⟨e, h45⟩ hsg
              · exact e
            have HS : Hid (evalW (bl s) (k + 1) = 10 * evalW (bl s) k - (((s[k].toNat : Nat) : Int) - 48)) := by
              unfold Hid
              rw [HAT.out]
              exact evalW_neg _ k h45 h1 (by rw [HLEN.out]; exact ha)
            have he : ((s[0].toNat : Nat) : Int) = 45 := by rw [HAZ.out, h45]; rfl
            clear HAT HAZ hsg h45 HK0
            generalize hN : s[k].toNat = N at *
            go_wp2
            go_round
            case rel => exact ⟨k + 1, _, by omega, by go_num, rfl, HX.out.neg (d := (N : Int) - 48) rfl HS.out⟩
            case measure => simp [intOf]; omega
          · have HS : Hid (evalW (bl s) (k + 1) = 10 * evalW (bl s) k + (((s[k].toNat : Nat) : Int) - 48)) := by
              unfold Hid
              rw [HAT.out]
              exact evalW_pos _ k h45 (by rw [HLEN.out]; exact ha)
            have he : ((s[0].toNat : Nat) : Int) ≠ 45 := by
              rw [HAZ.out]
              intro c
              exact h45 (UInt8.toNat_inj.1 (by show _ = 45; omega))
            clear HAT HAZ hsg h45 HK0
            generalize hN : s[k].toNat = N at *
            go_wp2
            go_round
            case rel => exact ⟨k + 1, _, by omega, by go_num, rfl, HX.out.pos (d := (N : Int) - 48) rfl HS.out⟩
            case measure => simp [intOf]; omega
        · have HNO : Hid (numOf (bl s) = none) := by
            refine bad_sign (i := k) (by rw [HLEN.out]; exact ha) ?_ hsg
            rw [← HAT.out]
            omega
          clear hsg HAZ HAT
          by_cases e45 : s[k].toNat = 45
          · have h1 : 1 ≤ k := by
              rcases Nat.eq_zero_or_pos k with e | e
              · exact absurd (by omega) (HK0.out e)
              · exact e
            have he : ((s[k].toNat : Nat) : Int) = 45 := by omega
            clear HK0 e45 hdg
            go_wp2
            go_ret2
            exact ⟨0, by rw [HNO.out]; rfl, wholeA_none HNO.out, Below.refl _ _⟩
          · have he : ((s[k].toNat : Nat) : Int) ≠ 45 := by omega
            by_cases c : s[k].toNat < 48
            · clear HK0 e45 hdg
              go_wp2
              go_ret2
              exact ⟨0, by rw [HNO.out]; rfl, wholeA_none HNO.out, Below.refl _ _⟩
            · have c2 : 57 < s[k].toNat := by omega
              clear HK0 e45 hdg
              go_wp2
              go_ret2
              exact ⟨0, by rw [HNO.out]; rfl, wholeA_none HNO.out, Below.refl _ _⟩
    · have hx := HX.out.1
      have H : Hid ((intD x = bl s ∧ numOf (bl s) = some x) ∨ (intD x ≠ bl s ∧ numOf (bl s) = none)) := by
        by_cases h21 : s.size < 21
        · obtain rfl : k = s.size := by omega
          have h2 := HX.out.2
          rw [← HLEN.out, evalW_all] at h2
          rcases read_iff hx h2 with ⟨a, b⟩ | ⟨a, b⟩
          · exact .inl ⟨b, a⟩
          · exact .inr ⟨b, a⟩
        · refine .inr ⟨fun e => ?_, too_long (by rw [HLEN.out]; omega)⟩
          have := (length_intD x hx).2
          rw [e, HLEN.out] at this
          omega
      have hend' : (decide (((k : Nat) : Int) < ((s.size : Nat) : Int)) && decide (((s.size : Nat) : Int) < 21)) = false := by
        rw [Bool.and_eq_false_iff, decide_eq_false_iff_not, decide_eq_false_iff_not]
        by_cases e : k < s.size
        · exact .inr (fun c => hend ⟨e, by omega⟩)
        · exact .inl (by omega)
      rcases H.out with ⟨e, hn⟩ | ⟨e, hn⟩
      · have hm := text_eq e
        have HN : Hid (numOf (bl s) = some x) := hn
        clear hn e HX H
        by_cases c : k < s.size
        · have c2 : ¬ s.size < 21 := fun h => hend ⟨c, h⟩
          go_wp2_with fail
          refine (digitsC x hx w).mono ?_
          rintro e w1 ⟨rfl, b1⟩
          rw [hm]
          have hq : (s.toList == s.toList) = true := by rw [beq_iff_eq]
          go_wp2
          go_ret2
          exact ⟨x, by rw [HN.out]; rfl, wholeA_some HN.out, b1⟩
        · go_wp2_with fail
          refine (digitsC x hx w).mono ?_
          rintro e w1 ⟨rfl, b1⟩
          rw [hm]
          have hq : (s.toList == s.toList) = true := by rw [beq_iff_eq]
          go_wp2
          go_ret2
          exact ⟨x, by rw [HN.out]; rfl, wholeA_some HN.out, b1⟩
      · have HN : Hid (numOf (bl s) = none) := hn
        have hq : ((mk (intD x)).toList == s.toList) = false := texts_part (fun c => e (by rw [← bl_mk' (intD x), c]))
        clear hn e HX H
        by_cases c : k < s.size
        · have c2 : ¬ s.size < 21 := fun h => hend ⟨c, h⟩
          go_wp2_with fail
          refine (digitsC x hx w).mono ?_
          rintro e w1 ⟨rfl, b1⟩
          go_wp2
          go_ret2
          exact ⟨x, by rw [HN.out]; rfl, wholeA_none HN.out, b1⟩
        · go_wp2_with fail
          refine (digitsC x hx w).mono ?_
          rintro e w1 ⟨rfl, b1⟩
          go_wp2
          go_ret2
          exact ⟨x, by rw [HN.out]; rfl, wholeA_none HN.out, b1⟩
end Go.Proofs.YthbjeedmhgnnaaaGreatDoor.Val
namespace Go.Proofs.YthbjeedmhgnnaaaGreatDoor.Val
open Go.ChangeShapes Go.WideShapes Go.ChangeAt Go.RowKit

theorem ret_int {a b : Int} (h : a = b) : Ending.returned (.int .i64 a) = .returned (.int .i64 b) := by rw [h]
theorem byteR_ne {b c : UInt8} (h : b ≠ c) : ((b.toNat : Nat) : Int) ≠ ((c.toNat : Nat) : Int) := fun e => h (UInt8.toNat_inj.1 (by omega))
set_option maxRecDepth 20000 in
set_option maxHeartbeats 1600000 in
theorem endNest91 (d : Nat) (hd : d ≤ 4) (s : ByteArray) (p : Nat) (hs : s.size ≤ 65536) (hp : p < s.size) (hb0 : s[p] = 91)
    (hrec : Hid (∀ (q : Nat) (y : World), 1 ≤ d → q < s.size → Calls Tryz.prog 79 #[.string s, .int .i64 (q : Int), .int .i64 ((d : Int) - 1)] y fun r w' => r = .returned (.int .i64 (endO (below d) s q)) ∧ Below y.heap.size y w')) (w : World) :
    Calls Tryz.prog 79 #[.string s, .int .i64 (p : Int), .int .i64 (d : Int)] w fun r w' => r = .returned (.int .i64 (manyZ (below d) 93 s (p + 1))) ∧ Below w.heap.size w w' := by
  have hb : ((s[p].toNat : Nat) : Int) = 91 := by rw [hb0]; rfl
  clear hb0
  have hp1 : decide (s.size ≤ p) = false := decide_eq_false (by omega)
  have hp2 : decide (((s.size : Nat) : Int) ≤ ((p : Nat) : Int)) = false := decide_eq_false (by omega)
  generalize hZ : manyZ (below d) 93 s (p + 1) = Z
  have HZ0 : Hid (Z = manyZ (below d) 93 s (p + 1)) := hZ.symm
  clear hZ
  go_enter Tryz.func79, Tryz.ntmps79
  go_wp2_with fail
  go_loopw [1] (fun t wr => ∃ q : Nat, p + 1 ≤ q ∧ q ≤ s.size ∧ t = .int .i64 (q : Int) ∧ Z = manyZ (below d) 93 s q ∧ Below w.heap.size w wr) (fun t _ => s.size - (intOf t).toNat)
  case atStart => exact ⟨p + 1, Nat.le_refl _, by omega, by go_num, HZ0.out, Below.refl _ _⟩
  case round =>
    obtain ⟨q, h1, h2, rfl, hz, hbl⟩ := hrel
    have HZ : Hid (Z = manyZ (below d) 93 s q) := hz
    have HB : Hid (Below w.heap.size w wr) := hbl
    clear hz hbl HZ0
    by_cases hq : q < s.size
    · by_cases hst : s[q] = 93
      · have HE : Hid (Z = ((q + 1 : Nat) : Int)) := by unfold Hid; rw [HZ.out, manyZ_stop hq hst]
        have hc : ((s[q].toNat : Nat) : Int) = 93 := by rw [hst]; rfl
        clear hst HZ hrec
        rcases Nat.eq_zero_or_pos d with rfl | hd0
        all_goals
          go_wp2
          go_ret
          exact ⟨ret_int (by rw [HE.out]; omega), HB.out⟩
      · have hc : ((s[q].toNat : Nat) : Int) ≠ 93 := byteR_ne hst
        rcases Nat.eq_zero_or_pos d with rfl | hd0
        · have HE : Hid (Z = -1) := by unfold Hid; rw [HZ.out, manyZ_bad hq hst rfl]
          clear hst HZ hrec
          go_wp2
          go_ret
          exact ⟨ret_int HE.out.symm, HB.out⟩
        · have HST : Hid (s[q] ≠ 93) := hst
          clear hst
          go_wp2_with fail
          refine (hrec.out q wr hd0 hq).mono ?_
          rintro e w1 ⟨rfl, b1⟩
          have HB1 : Hid (Below w.heap.size w w1) := bel2 HB.out b1
          clear b1
          rcases endO_cases (fair_below d) s q hq with ⟨ho, hn⟩ | ⟨q', ho, hlt, hle, hn⟩
          · have HE : Hid (Z = -1) := by unfold Hid; rw [HZ.out, manyZ_bad hq HST.out hn]
            rw [ho]
            clear ho hn HZ HST
            go_wp2
            go_ret
            exact ⟨ret_int HE.out.symm, HB1.out⟩
          · have HE : Hid (Z = manyZ (below d) 93 s q') := by unfold Hid; rw [HZ.out, manyZ_step (fair_below d) hq HST.out hlt hle hn]
            rw [ho]
            clear ho hn HZ HST
            go_wp2
            go_roundw
            case rel => exact ⟨q', by omega, hle, rfl, HE.out, HB1.out⟩
            case measure => simp [intOf]; omega
    · have HE : Hid (Z = -1) := by unfold Hid; rw [HZ.out, manyZ_out (by omega)]
      clear HZ hrec
      rcases Nat.eq_zero_or_pos d with rfl | hd0
      all_goals
        go_wp2
        go_ret
        exact ⟨ret_int HE.out.symm, HB.out⟩
set_option maxRecDepth 20000 in
set_option maxHeartbeats 1600000 in
theorem endNest123 (d : Nat) (hd : d ≤ 4) (s : ByteArray) (p : Nat) (hs : s.size ≤ 65536) (hp : p < s.size) (hb0 : s[p] = 123)
    (hrec : Hid (∀ (q : Nat) (y : World), 1 ≤ d → q < s.size → Calls Tryz.prog 79 #[.string s, .int .i64 (q : Int), .int .i64 ((d : Int) - 1)] y fun r w' => r = .returned (.int .i64 (endO (below d) s q)) ∧ Below y.heap.size y w')) (w : World) :
    Calls Tryz.prog 79 #[.string s, .int .i64 (p : Int), .int .i64 (d : Int)] w fun r w' => r = .returned (.int .i64 (manyZ (below d) 125 s (p + 1))) ∧ Below w.heap.size w w' := by
  have hb : ((s[p].toNat : Nat) : Int) = 123 := by rw [hb0]; rfl
  clear hb0
  have hp1 : decide (s.size ≤ p) = false := decide_eq_false (by omega)
  have hp2 : decide (((s.size : Nat) : Int) ≤ ((p : Nat) : Int)) = false := decide_eq_false (by omega)
  generalize hZ : manyZ (below d) 125 s (p + 1) = Z
  have HZ0 : Hid (Z = manyZ (below d) 125 s (p + 1)) := hZ.symm
  clear hZ
  go_enter Tryz.func79, Tryz.ntmps79
  go_wp2_with fail
  go_loopw [1] (fun t wr => ∃ q : Nat, p + 1 ≤ q ∧ q ≤ s.size ∧ t = .int .i64 (q : Int) ∧ Z = manyZ (below d) 125 s q ∧ Below w.heap.size w wr) (fun t _ => s.size - (intOf t).toNat)
  case atStart => exact ⟨p + 1, Nat.le_refl _, by omega, by go_num, HZ0.out, Below.refl _ _⟩
  case round =>
    obtain ⟨q, h1, h2, rfl, hz, hbl⟩ := hrel
    have HZ : Hid (Z = manyZ (below d) 125 s q) := hz
    have HB : Hid (Below w.heap.size w wr) := hbl
    clear hz hbl HZ0
    by_cases hq : q < s.size
    · by_cases hst : s[q] = 125
      · have HE : Hid (Z = ((q + 1 : Nat) : Int)) := by unfold Hid; rw [HZ.out, manyZ_stop hq hst]
        have hc : ((s[q].toNat : Nat) : Int) = 125 := by rw [hst]; rfl
        clear hst HZ hrec
        rcases Nat.eq_zero_or_pos d with rfl | hd0
        all_goals
          go_wp2
          go_ret
          exact ⟨ret_int (by rw [HE.out]; omega), HB.out⟩
      · have hc : ((s[q].toNat : Nat) : Int) ≠ 125 := byteR_ne hst
        rcases Nat.eq_zero_or_pos d with rfl | hd0
        · have HE : Hid (Z = -1) := by unfold Hid; rw [HZ.out, manyZ_bad hq hst rfl]
          clear hst HZ hrec
          go_wp2
          go_ret
          exact ⟨ret_int HE.out.symm, HB.out⟩
        · have HST : Hid (s[q] ≠ 125) := hst
          clear hst
          go_wp2_with fail
          refine (hrec.out q wr hd0 hq).mono ?_
          rintro e w1 ⟨rfl, b1⟩
          have HB1 : Hid (Below w.heap.size w w1) := bel2 HB.out b1
          clear b1
          rcases endO_cases (fair_below d) s q hq with ⟨ho, hn⟩ | ⟨q', ho, hlt, hle, hn⟩
          · have HE : Hid (Z = -1) := by unfold Hid; rw [HZ.out, manyZ_bad hq HST.out hn]
            rw [ho]
            clear ho hn HZ HST
            go_wp2
            go_ret
            exact ⟨ret_int HE.out.symm, HB1.out⟩
          · have HE : Hid (Z = manyZ (below d) 125 s q') := by unfold Hid; rw [HZ.out, manyZ_step (fair_below d) hq HST.out hlt hle hn]
            rw [ho]
            clear ho hn HZ HST
            go_wp2
            go_roundw
            case rel => exact ⟨q', by omega, hle, rfl, HE.out, HB1.out⟩
            case measure => simp [intOf]; omega
    · have HE : Hid (Z = -1) := by unfold Hid; rw [HZ.out, manyZ_out (by omega)]
      clear HZ hrec
      rcases Nat.eq_zero_or_pos d with rfl | hd0
      all_goals
        go_wp2
        go_ret
        exact ⟨ret_int HE.out.symm, HB.out⟩
theorem firstAt_up {s : ByteArray} {p k : Nat} {c : UInt8} (h : FirstAt s p c k) (hp : p < s.size) (hb : s[p] ≠ c) : FirstAt s (p + 1) c k := by
  obtain ⟨h1, h2, h3, h4⟩ := h
  have hne : k ≠ p := by
    rintro rfl
    exact hb (by rw [bl_at]; exact h3)
  exact ⟨by omega, h2, h3, fun j j1 j2 => h4 j (by omega) j2⟩
theorem ex_size (s : ByteArray) (a b : Nat) (hs : s.size ≤ 65536) : (s.extract a b).size ≤ 65536 := by
  rw [ByteArray.size_extract]
  omega
set_option maxRecDepth 20000 in
set_option maxHeartbeats 1600000 in
theorem endIntR (d : Nat) (_hd : d ≤ 4) (s : ByteArray) (p : Nat) (hs : s.size ≤ 65536) (hp : p < s.size) (hb0 : s[p] = 105) (w : World) :
    Calls Tryz.prog 79 #[.string s, .int .i64 (p : Int), .int .i64 (d : Int)] w fun r w' => r = .returned (.int .i64 (endZ d s p)) ∧ Below w.heap.size w w' := by
  have hb : ((s[p].toNat : Nat) : Int) = 105 := by rw [hb0]; rfl
  have HF : Hid ((∀ j, p ≤ j → j < s.size → j < p + 22 → (bl s).getD j 0 ≠ 59) → endZ d s p = -1) := fun h => endZ_int_far hp hb0 fun j h1 h2 h3 => h j (by omega) h2 h3
  have HK : Hid (∀ k, FirstAt s p 59 k → p + 1 ≤ k ∧ k < s.size ∧ endZ d s p = if (numOf (bl (s.extract (p + 1) k))).isSome then ((k + 1 : Nat) : Int) else -1) := fun k hk => by
    have := firstAt_up hk hp (by rw [hb0]; decide)
    exact ⟨this.1, this.2.1, endZ_int hp hb0 this⟩
  clear hb0
  generalize endZ d s p = Z at *
  go_enter Tryz.func79, Tryz.ntmps79
  go_wp2_with fail
  refine (uptoR s p 59 hs (by omega) w).mono ?_
  rintro e w1 ⟨z, rfl, hu, hw1⟩
  subst w1
  rcases hu with ⟨k, rfl, hk, h22⟩ | ⟨rfl, hfar⟩
  · obtain ⟨k1, k2, hz⟩ := HK.out k hk
    have HZ : Hid (Z = if (numOf (bl (s.extract (p + 1) k))).isSome then ((k + 1 : Nat) : Int) else -1) := hz
    have hex := ex_size s (p + 1) k hs
    have i0 : (0 : Int) ≤ (p : Int) + 1 := by omega
    have i1 : (p : Int) + 1 ≤ (k : Int) := by omega
    have i2 : (k : Int) ≤ (s.size : Int) := by omega
    clear HK HF hz hk
    go_wp2_with fail
    refine (wholeR (s.extract (p + 1) k) hex w).mono ?_
    rintro e w1 ⟨x, rfl, hx, b1⟩
    have HB : Hid (Below w.heap.size w w1) := b1
    clear b1 hx
    generalize (numOf (bl (s.extract (p + 1) k))).isSome = is at *
    cases is
    all_goals
      go_wp2
      go_ret
      exact ⟨ret_int (by rw [HZ.out]; first | rfl | (show _ = ((k + 1 : Nat) : Int); omega)), HB.out⟩
  · have HZ : Hid (Z = -1) := HF.out hfar
    clear HK HF hfar
    go_wp2
    go_ret
    exact ⟨ret_int HZ.out.symm, Below.refl _ _⟩
set_option maxRecDepth 20000 in
set_option maxHeartbeats 1600000 in
theorem endBytesR (d : Nat) (_hd : d ≤ 4) (s : ByteArray) (p : Nat) (hs : s.size ≤ 65536) (hp : p < s.size) (hb0 : s[p] = 115) (w : World) :
    Calls Tryz.prog 79 #[.string s, .int .i64 (p : Int), .int .i64 (d : Int)] w fun r w' => r = .returned (.int .i64 (endZ d s p)) ∧ Below w.heap.size w w' := by
  have hb : ((s[p].toNat : Nat) : Int) = 115 := by rw [hb0]; rfl
  have HF : Hid ((∀ j, p ≤ j → j < s.size → j < p + 22 → (bl s).getD j 0 ≠ 58) → endZ d s p = -1) := fun h => endZ_bytes_far hp hb0 fun j h1 h2 h3 => h j (by omega) h2 h3
  have HK : Hid (∀ k, FirstAt s p 58 k → p + 1 ≤ k ∧ k < s.size ∧ endZ d s p = match numOf (bl (s.extract (p + 1) k)) with
    | none => -1
    | some x => if 0 ≤ x ∧ x ≤ (s.size : Int) - k - 1 then (k : Int) + 1 + x else -1) := fun k hk => by
    have := firstAt_up hk hp (by rw [hb0]; decide)
    exact ⟨this.1, this.2.1, endZ_bytes hp hb0 this⟩
  clear hb0
  generalize endZ d s p = Z at *
  go_enter Tryz.func79, Tryz.ntmps79
  go_wp2_with fail
  refine (uptoR s p 58 hs (by omega) w).mono ?_
  rintro e w1 ⟨z, rfl, hu, hw1⟩
  subst w1
  rcases hu with ⟨k, rfl, hk, h22⟩ | ⟨rfl, hfar⟩
  · obtain ⟨k1, k2, hz⟩ := HK.out k hk
    have hex := ex_size s (p + 1) k hs
    have i0 : (0 : Int) ≤ (p : Int) + 1 := by omega
    have i1 : (p : Int) + 1 ≤ (k : Int) := by omega
    have i2 : (k : Int) ≤ (s.size : Int) := by omega
    clear HK HF hk
    go_wp2_with fail
    refine (wholeR (s.extract (p + 1) k) hex w).mono ?_
    rintro e w1 ⟨x, rfl, hx, b1⟩
    have HB : Hid (Below w.heap.size w w1) := b1
    clear b1
    cases hn : numOf (bl (s.extract (p + 1) k)) with
    | none =>
      rw [hn] at hz
      have HZ : Hid (Z = -1) := hz
      clear hz hx hn
      rw [Option.isSome_none]
      go_wp2
      go_ret
      exact ⟨ret_int HZ.out.symm, HB.out⟩
    | some y =>
      obtain rfl := hx y hn
      have hin := (numOf_some.1 hn).1
      rw [hn] at hz
      have HZ : Hid (Z = if 0 ≤ x ∧ x ≤ (s.size : Int) - k - 1 then (k : Int) + 1 + x else -1) := hz
      obtain ⟨i1, i2⟩ := hin
      clear hz hx hn
      rw [Option.isSome_some]
      by_cases c : 0 ≤ x
      · by_cases c2 : x ≤ (s.size : Int) - k - 1
        · have HE : Hid (Z = (k : Int) + 1 + x) := by unfold Hid; rw [HZ.out, if_pos ⟨c, c2⟩]
          clear HZ
          go_wp2
          go_ret
          exact ⟨ret_int HE.out.symm, HB.out⟩
        · have HE : Hid (Z = -1) := by unfold Hid; rw [HZ.out, if_neg (fun h => c2 h.2)]
          clear HZ
          go_wp2
          go_ret
          exact ⟨ret_int HE.out.symm, HB.out⟩
      · have HE : Hid (Z = -1) := by unfold Hid; rw [HZ.out, if_neg (fun h => c h.1)]
        clear HZ
        go_wp2
        go_ret
        exact ⟨ret_int HE.out.symm, HB.out⟩
  · have HZ : Hid (Z = -1) := HF.out hfar
    clear HK HF hfar
    go_wp2
    go_ret
    exact ⟨ret_int HZ.out.symm, Below.refl _ _⟩
set_option maxRecDepth 20000 in
set_option maxHeartbeats 1600000 in
theorem endStep (d : Nat) (hd : d ≤ 4) (s : ByteArray) (p : Nat) (hs : s.size ≤ 65536) (hp : p ≤ s.size)
    (hrec : Hid (∀ (q : Nat) (y : World), 1 ≤ d → q < s.size → Calls Tryz.prog 79 #[.string s, .int .i64 (q : Int), .int .i64 ((d : Int) - 1)] y fun r w' => r = .returned (.int .i64 (endO (below d) s q)) ∧ Below y.heap.size y w')) (w : World) :
    Calls Tryz.prog 79 #[.string s, .int .i64 (p : Int), .int .i64 (d : Int)] w fun r w' => r = .returned (.int .i64 (endZ d s p)) ∧ Below w.heap.size w w' := by
  by_cases h0 : p < s.size
  · by_cases c1 : s[p] = 110 ∨ s[p] = 116 ∨ s[p] = 102
    · have HZ : Hid (endZ d s p = ((p + 1 : Nat) : Int)) := endZ_word h0 c1
      generalize endZ d s p = Z at *
      rcases c1 with c | c | c
      · have hb : ((s[p].toNat : Nat) : Int) = 110 := by rw [c]; rfl
        clear c hrec
        go_enter Tryz.func79, Tryz.ntmps79
        go_wp2
        go_ret
        exact ⟨ret_int (by rw [HZ.out]; omega), Below.refl _ _⟩
      · have hb : ((s[p].toNat : Nat) : Int) = 116 := by rw [c]; rfl
        clear c hrec
        go_enter Tryz.func79, Tryz.ntmps79
        go_wp2
        go_ret
        exact ⟨ret_int (by rw [HZ.out]; omega), Below.refl _ _⟩
      · have hb : ((s[p].toNat : Nat) : Int) = 102 := by rw [c]; rfl
        clear c hrec
        go_enter Tryz.func79, Tryz.ntmps79
        go_wp2
        go_ret
        exact ⟨ret_int (by rw [HZ.out]; omega), Below.refl _ _⟩
    · by_cases c2 : s[p] = 105
      · exact endIntR d hd s p hs h0 c2 w
      · by_cases c3 : s[p] = 115
        · exact endBytesR d hd s p hs h0 c3 w
        · by_cases c4 : s[p] = 91
          · rw [endZ_nest h0 (.inl c4), c4]
            exact endNest91 d hd s p hs h0 c4 hrec w
          · by_cases c5 : s[p] = 123
            · rw [endZ_nest h0 (.inr c5), c5]
              exact endNest123 d hd s p hs h0 c5 hrec w
            · have HZ : Hid (endZ d s p = -1) := endZ_other h0 ⟨fun c => c1 (.inl c), fun c => c1 (.inr (.inl c)), fun c => c1 (.inr (.inr c)), c2, c3, c4, c5⟩
              generalize endZ d s p = Z at *
              have e1 : ((s[p].toNat : Nat) : Int) ≠ 110 := byteR_ne fun c => c1 (.inl c)
              have e2 : ((s[p].toNat : Nat) : Int) ≠ 116 := byteR_ne fun c => c1 (.inr (.inl c))
              have e3 : ((s[p].toNat : Nat) : Int) ≠ 102 := byteR_ne fun c => c1 (.inr (.inr c))
              have e4 : ((s[p].toNat : Nat) : Int) ≠ 105 := byteR_ne c2
              have e5 : ((s[p].toNat : Nat) : Int) ≠ 115 := byteR_ne c3
              have e6 : ((s[p].toNat : Nat) : Int) ≠ 91 := byteR_ne c4
              have e7 : ((s[p].toNat : Nat) : Int) ≠ 123 := byteR_ne c5
              clear c1 c2 c3 c4 c5 hrec
              go_enter Tryz.func79, Tryz.ntmps79
              go_wp2
              go_ret
              exact ⟨ret_int HZ.out.symm, Below.refl _ _⟩
  · have HZ : Hid (endZ d s p = -1) := endZ_out (by omega)
    generalize endZ d s p = Z at *
    clear hrec
    go_enter Tryz.func79, Tryz.ntmps79
    go_wp2
    go_ret
    exact ⟨ret_int HZ.out.symm, Below.refl _ _⟩
set_option maxRecDepth 20000 in
set_option maxHeartbeats 1600000 in
theorem endR : ∀ (d : Nat), d ≤ 4 → ∀ (s : ByteArray) (p : Nat), s.size ≤ 65536 → p ≤ s.size → ∀ w : World,
    Calls Tryz.prog 79 #[.string s, .int .i64 (p : Int), .int .i64 (d : Int)] w fun r w' => r = .returned (.int .i64 (endZ d s p)) ∧ Below w.heap.size w w' := by
  intro d
  induction d with
  | zero =>
    intro hd s p hs hp w
    exact endStep 0 hd s p hs hp (fun q y h _ => absurd h (by decide)) w
  | succ d ih =>
    intro hd s p hs hp w
    refine endStep (d + 1) hd s p hs hp (fun q y _ hq => ?_) w
    have := ih (by omega) s q hs (by omega) y
    rw [show ((d + 1 : Nat) : Int) - 1 = (d : Int) from by omega]
    exact this
end Go.Proofs.YthbjeedmhgnnaaaGreatDoor.Val
