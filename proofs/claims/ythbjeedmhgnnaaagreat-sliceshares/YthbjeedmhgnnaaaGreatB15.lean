/-
  Several texts in one: A list of texts that came in, opened: what the walks of the laws over lists of texts are told. Over whatever program. · A value's kind and what it has between its signs, by the places of a text: plain facts. · Values one behind the other in a text: plain facts; such values as cells. · The library's words for a number's digits and what digits are read as, and ours: plain facts. · A taker in a block; the worlds that a taker's work leads through; isDone, sign, upTo, number, digits, bytes: contracts. · The texts that values are made as; texts held against texts: contracts. · A taker's bytes: contracts. · What a taker takes: values, behind, take: contracts, by how deep a value stands. · What stands behind a value's first sign; take, at every depth: contracts. · The one value that a text is: only: contract. · The values in a list or in a struct: within: contract. · A value's kind and parts: taken.parts, Parts: contracts. · Which values fit a node, a step down: plain facts.
-/
import Derived.WalkKit
import Derived.ProofKit
import Derived.OpenShut
import Derived.ChangeOld
import Derived.Below
import Derived.SizedLaws
import Derived.SliceStrings
import Derived.OwnWalk
import Derived.Laws.OwnMore
import Derived.Test.YthbjeedmhgnnaaaGreatB03
import Derived.Lib.Bytealg
import Derived.Lib.ItoaNum
import Derived.Lib.ParseIntBTie
import Derived.Test.YthbjeedmhgnnaaaGreatRows
import Derived.RegionTactic
import Derived.ChangeAlike
import Derived.Deep.QuietTactic
import Derived.BigQuiet
import Derived.WalkSmall
import Derived.Lib.AppendIntMem
import Derived.Lib.AtoiErrMem
import Derived.Test.YthbjeedmhgnnaaaGreatB01
import Derived.Deep.RegionWith
namespace Go.Proofs.YthbjeedmhgnnaaaGreat.Texts
open Go.ChangeShapes Go.WideShapes Go.ChangeAt Go.RowKit

/-- The texts lie so, a cell each, from a on. -/
def LiesT (w : World) (a : Addr) (ss : List ByteArray) : Prop := ∀ i, i < ss.length → w.cell? (a.add i) = some (.string (ss.getD i ByteArray.empty))
section
variable {H : Type} {enc : TypeId × Value → H} {P : Program} {w : World} {base : Nat} {held : Bool}

end
/-- A list of texts, as a walk meets it. -/
def IsTx (w : World) (o : Option Addr) (ss : List ByteArray) : Prop := ss.length ≤ maxLen ∧ (ss = [] ∨ ∃ x, o = some x ∧ LiesT w x ss)
theorem IsTx.later {w w' : World} {o : Option Addr} {ss : List ByteArray} (h : IsTx w o ss) (hb : Below w.heap.size w w') : IsTx w' o ss :=
  ⟨h.1, h.2.imp id fun ⟨x, e, hl⟩ => ⟨x, e, fun i hi => (hb.cell (World.block_lt_of_cell? _ _ (hl i hi))).trans (hl i hi)⟩⟩
/-- Texts as cells. -/
def cellsT (ss : List ByteArray) : List Value := ss.map Value.string
theorem cellsT_snoc (ss : List ByteArray) (s : ByteArray) : cellsT (ss ++ [s]) = cellsT ss ++ [.string s] := by simp [cellsT]
theorem cellsT_at (ss : List ByteArray) (i : Nat) (h : i < ss.length) : (cellsT ss)[i]? = some (.string (ss.getD i ByteArray.empty)) := by
  unfold cellsT
  rw [List.getElem?_map, List.getElem?_eq_getElem h, List.getD_eq_getElem?_getD, List.getElem?_eq_getElem h]
  rfl
/-- A row of one's own. -/
theorem own_texts {w : World} {b c : Nat} {T : TypeId} {o : Option Addr} {ss : List ByteArray} (h : w.ownsRow b T 1 (.slice o ss.length c) ss.length (cellsT ss)) : IsTx w o ss := by
  rcases h.2 with ⟨h0, h1⟩ | ⟨g, cap, cur, h0, _, _, hle, hm, _⟩
  · exact ⟨by rw [h1]; exact Nat.zero_le _, .inl (List.eq_nil_of_length_eq_zero h1)⟩
  · refine ⟨by omega, .inr ⟨⟨g, 0, none⟩, by injection h0, fun i hi => ?_⟩⟩
    injection h0 with h2 h3 h4
    subst h2 h4
    exact h.cells rfl _ _ (cellsT_at ss i hi)
end Go.Proofs.YthbjeedmhgnnaaaGreat.Texts
namespace Go.Proofs.YthbjeedmhgnnaaaGreat.Val

def kindOf : List UInt8 → Int
  | [] => 0
  | b :: _ => if b = 110 then -1 else if b = 105 then 0 else if b = 115 then 2 else if b = 91 then 3 else if b = 123 then 4 else 1
def bodyOf : List UInt8 → List UInt8
  | [] => []
  | b :: r => if b = 110 then [] else if b = 105 ∨ b = 91 ∨ b = 123 then r.dropLast else if b = 115 then (match seek 58 r with | none => [] | some j => r.drop (j + 1)) else [b]
theorem bodyOf_s (r : List UInt8) : bodyOf (115 :: r) = match seek 58 r with | none => [] | some j => r.drop (j + 1) := by
  rw [bodyOf, if_neg (by decide), if_neg (by decide), if_pos rfl]
theorem bl_part (s : ByteArray) (p q : Nat) : bl (s.extract p q) = ((bl s).drop p).take (q - p) := (take_drop_extract s p q).symm
end Go.Proofs.YthbjeedmhgnnaaaGreat.Val
namespace Go.Proofs.YthbjeedmhgnnaaaGreat.Val

def flat (vs : List ByteArray) : List UInt8 := (vs.map bl).flatten
/-- Where the value of a number begins. -/
def pos (vs : List ByteArray) (i : Nat) : Nat := (flat (vs.take i)).length
/-- A text is these values. -/
structure Row4 (c : ByteArray) (vs : List ByteArray) : Prop where
  eq : bl c = flat vs
  each : ∀ v ∈ vs, val 4 (bl v) = some v.size
theorem flat_app (a b : List ByteArray) : flat (a ++ b) = flat a ++ flat b := by unfold flat; rw [List.map_append, List.flatten_append]
theorem flat_one (v : ByteArray) : flat [v] = bl v := by simp [flat]
theorem getD_text (vs : List ByteArray) (i : Nat) (h : i < vs.length) : vs.getD i ByteArray.empty = vs[i] := by rw [List.getD_eq_getElem?_getD, List.getElem?_eq_getElem h]; rfl
theorem take_text (vs : List ByteArray) (i : Nat) (h : i < vs.length) : vs.take (i + 1) = vs.take i ++ [vs.getD i ByteArray.empty] := by rw [List.take_succ_eq_append_getElem h, getD_text vs i h]
theorem pos_succ (vs : List ByteArray) (i : Nat) (h : i < vs.length) : pos vs (i + 1) = pos vs i + (vs.getD i ByteArray.empty).size := by
  unfold pos
  rw [take_text vs i h, flat_app, List.length_append, flat_one, bl_length]
theorem Row4.last {c : ByteArray} {vs : List ByteArray} (h : Row4 c vs) : pos vs vs.length = c.size := by
  unfold pos
  rw [List.take_length, ← h.eq, bl_length]
theorem Row4.cut {c : ByteArray} {vs : List ByteArray} (h : Row4 c vs) (i : Nat) (hi : i < vs.length) : (bl c).drop (pos vs i) = bl (vs.getD i ByteArray.empty) ++ flat (vs.drop (i + 1)) := by
  have e : vs = vs.take i ++ (vs.getD i ByteArray.empty :: vs.drop (i + 1)) := by
    rw [getD_text vs i hi, ← List.drop_eq_getElem_cons hi, List.take_append_drop]
  have e2 : flat vs = flat (vs.take i) ++ (bl (vs.getD i ByteArray.empty) ++ flat (vs.drop (i + 1))) := by
    rw [show flat vs = flat (vs.take i ++ (vs.getD i ByteArray.empty :: vs.drop (i + 1))) from by rw [← e], flat_app]
    rfl
  rw [h.eq, e2]
  unfold pos
  rw [List.drop_append_of_le_length (Nat.le_refl _), List.drop_length]
  rfl
theorem getD_memT (vs : List ByteArray) (i : Nat) (h : i < vs.length) : vs.getD i ByteArray.empty ∈ vs := by
  rw [getD_text vs i h]
  exact List.getElem_mem h
theorem Row4.at {c : ByteArray} {vs : List ByteArray} (h : Row4 c vs) (i : Nat) (hi : i < vs.length) :
    val 4 ((bl c).drop (pos vs i)) = some (vs.getD i ByteArray.empty).size ∧ c.extract (pos vs i) (pos vs i + (vs.getD i ByteArray.empty).size) = vs.getD i ByteArray.empty := by
  have hc := h.cut i hi
  constructor
  · rw [hc]
    exact (fair_val 4).ext _ _ _ (h.each _ (getD_memT vs i hi))
  · apply bl_inj
    rw [bl_part, hc, Nat.add_sub_cancel_left, ← bl_length, List.take_append_of_le_length (Nat.le_refl _), List.take_length]
theorem Row4.pos_le {c : ByteArray} {vs : List ByteArray} (h : Row4 c vs) (i : Nat) : pos vs i ≤ c.size := by
  rw [← bl_length, h.eq]
  unfold pos
  rw [show flat vs = flat (vs.take i ++ vs.drop i) from by rw [List.take_append_drop], flat_app, List.length_append]
  omega
theorem size_pos {v : ByteArray} (h : val 4 (bl v) = some v.size) : 1 ≤ v.size := ((fair_val 4).pos _ _ h).1
theorem Row4.le_pos {c : ByteArray} {vs : List ByteArray} (h : Row4 c vs) : ∀ i, i ≤ vs.length → i ≤ pos vs i := by
  intro i
  induction i with
  | zero => intro _; exact Nat.zero_le _
  | succ i ih =>
    intro hi
    have := ih (by omega)
    have := size_pos (h.each _ (getD_memT vs i hi))
    rw [pos_succ vs i hi]
    omega
theorem Row4.len {c : ByteArray} {vs : List ByteArray} (h : Row4 c vs) : vs.length ≤ c.size := by
  rw [← h.last]
  exact h.le_pos _ (Nat.le_refl _)
/-- What a value has between its signs, as a text. -/
def bodyS (v : ByteArray) : ByteArray := ⟨(bodyOf (bl v)).toArray⟩
theorem bl_bodyS (v : ByteArray) : bl (bodyS v) = bodyOf (bl v) := bl_mk _
/-- The values in a list or a struct. -/
theorem row_of_nest {v : List UInt8} {d : Nat} (hd : d ≤ 4) (h : val d v = some v.length) (hk : kindOf v = 3 ∨ kindOf v = 4) : ∃ ps : List (List UInt8), bodyOf v = ps.flatten ∧ (∀ p ∈ ps, val 4 p = some p.length) ∧ (∀ p ∈ ps, below d p = some p.length) ∧ (kindOf v = 3 → v = listM ps) ∧ (kindOf v = 4 → v = structM ps) := by
  rw [val_below] at h
  rcases valStep_is h with ⟨b, r, rfl, hh, _⟩ | ⟨r, j, x, rfl, hh, _⟩ | ⟨r, j, n, rfl, hh, hn, _⟩ | ⟨b, r, m, f, rfl, hb, hh, hl⟩
  · rcases hh with rfl | rfl | rfl
    · rcases hk with c | c <;> exact absurd c (by show ¬ ((-1 : Int) = _); decide)
    · rcases hk with c | c <;> exact absurd c (by show ¬ ((1 : Int) = _); decide)
    · rcases hk with c | c <;> exact absurd c (by show ¬ ((1 : Int) = _); decide)
  · rcases hk with c | c <;> exact absurd c (by show ¬ ((0 : Int) = _); decide)
  · rcases hk with c | c <;> exact absurd c (by show ¬ ((2 : Int) = _); decide)
  · have hm : m = r.length := by simpa using hl.symm
    have h1 := many_fuel (fair_below d) _ _ _ _ (r.length + 1) hh (by omega)
    have h2 := items_flat _ _ _ _ h1
    rw [hm, List.take_length] at h2
    have h3 := items_each (fair_below d) _ _ _ _ h1
    have h4 : ∀ p ∈ items (below d) (b + 2) (r.length + 1) r, val 4 p = some p.length := by
      intro p hp
      have := h3 p hp
      cases d with
      | zero => cases this
      | succ d => exact val_up d 4 (by omega) _ _ this
    refine ⟨items (below d) (b + 2) (r.length + 1) r, ?_, h4, h3, ?_, ?_⟩
    · rcases hb with rfl | rfl
      · show r.dropLast = _
        rw [← h2, List.dropLast_concat]
        rw [h2]
      · show r.dropLast = _
        rw [← h2, List.dropLast_concat]
        rw [h2]
    · intro c
      rcases hb with rfl | rfl
      · unfold listM
        rw [show (93 : UInt8) = 91 + 2 from rfl, h2]
      · exact absurd c (by show ¬ ((4 : Int) = _); decide)
    · intro c
      rcases hb with rfl | rfl
      · exact absurd c (by show ¬ ((3 : Int) = _); decide)
      · unfold structM
        rw [show (125 : UInt8) = 123 + 2 from rfl, h2]
end Go.Proofs.YthbjeedmhgnnaaaGreat.Val
namespace Go.Proofs.YthbjeedmhgnnaaaGreat.Val

end Go.Proofs.YthbjeedmhgnnaaaGreat.Val
namespace Go.Proofs.YthbjeedmhgnnaaaGreat.Val
open Go.ChangeShapes Go.WideShapes Go.ChangeAt Go.RowKit

/-- A taker of a text, so far come. -/
structure Tk (w : World) (b : Nat) (s : ByteArray) (p : Nat) : Prop where
  blk : w.heap[b]? = some (.cells #[.string s, .int .i64 (p : Int)] 66 (0, 0))
theorem Tk.lt {w : World} {b : Nat} {s : ByteArray} {p : Nat} (h : Tk w b s p) : b < w.heap.size := by
  by_cases c : b < w.heap.size
  · exact c
  · have := h.blk
    rw [Array.getElem?_eq_none (by omega)] at this
    cases this
theorem Tk.at {w : World} {b : Nat} {s : ByteArray} {p : Nat} (h : Tk w b s p) : w.cell? ⟨b, 1, none⟩ = some (.int .i64 (p : Int)) := by simp [World.cell?, h.blk]
theorem Tk.fz {w : World} {b : Nat} {s : ByteArray} {p : Nat} (h : Tk w b s p) : w.frozen? ⟨b, 1, none⟩ = false := by simp [World.frozen?, h.blk]
theorem Tk.set {w : World} {b : Nat} {s : ByteArray} {p : Nat} (h : Tk w b s p) (q : Nat) : Tk (w.setCell ⟨b, 1, none⟩ (.int .i64 (q : Int))) b s q := by
  refine ⟨?_⟩
  simp only [World.setCell, Array.getElem?_modify, if_true, h.blk, Option.map_some]
  rfl
/-- What stands but for one block. -/
structure Mv (b : Nat) (w w' : World) : Prop where
  os : w'.os = w.os
  tape : w'.tape = w.tape
  output : w'.output = w.output
  size : w.heap.size ≤ w'.heap.size
  block : ∀ k, k < w.heap.size → k ≠ b → w'.heap[k]? = w.heap[k]?
theorem Mv.refl (b : Nat) (w : World) : Mv b w w := ⟨rfl, rfl, rfl, Nat.le_refl _, fun _ _ _ => rfl⟩
theorem Mv.trans {b : Nat} {u v w : World} (h : Mv b u v) (k : Mv b v w) : Mv b u w :=
  ⟨k.os.trans h.os, k.tape.trans h.tape, k.output.trans h.output, Nat.le_trans h.size k.size, fun i hi hb => (k.block i (Nat.lt_of_lt_of_le hi h.size) hb).trans (h.block i hi hb)⟩
theorem Mv.set (b : Nat) (w : World) (o : Nat) (v : Value) : Mv b w (w.setCell ⟨b, o, none⟩ v) := ⟨rfl, rfl, rfl, by simp [World.setCell], fun k _ hk => Below.heap_setCell _ _ _ _ hk⟩
theorem Mv.below {b B : Nat} {w w' : World} (h : Mv b w w') (hB : B ≤ b) (hw : B ≤ w.heap.size) : Below B w w' := ⟨h.os, h.tape, h.output, h.size, fun k hk => h.block k (by omega) (by omega)⟩
theorem Tk.later {w w' : World} {b : Nat} {s : ByteArray} {p : Nat} (h : Tk w b s p) (hb : Below w.heap.size w w') : Tk w' b s p := ⟨(hb.block b h.lt).trans h.blk⟩
theorem drewN_below (w : World) (n : Nat) : Below w.heap.size w (w.drewN n) := below_drewN (Below.refl _ _) n
theorem bel2 {a b c : World} (h : Below a.heap.size a b) (k : Below b.heap.size b c) : Below a.heap.size a c := h.trans (k.mono h.size)

theorem Tk.go {w : World} {b : Nat} {s : ByteArray} {p : Nat} (h : Tk w b s p) (q : Nat) (z : Int) (hz : z = (q : Int)) : ∃ w1, w.setCell ⟨b, 1, none⟩ (.int .i64 z) = w1 ∧ Tk w1 b s q ∧ Mv b w w1 := by
  subst hz
  exact ⟨_, rfl, h.set q, Mv.set b w 1 _⟩
theorem texts_part {u s : ByteArray} (h : u ≠ s) : (u.toList == s.toList) = false := by
  rw [Go.ByteArray.toList_eq, Go.ByteArray.toList_eq]
  cases c : (u.data.toList == s.data.toList)
  · rfl
  · have e : u.data.toList = s.data.toList := by simpa using c
    refine absurd ?_ h
    have e2 : u.data = s.data := Array.toList_inj.1 e
    cases u
    cases s
    simpa using e2
end Go.Proofs.YthbjeedmhgnnaaaGreat.Val
namespace Go.Proofs.YthbjeedmhgnnaaaGreat.Val
open Go.ChangeShapes Go.WideShapes Go.ChangeAt Go.RowKit
open Texts

/-- Bytes as a text. -/
def mk (l : List UInt8) : ByteArray := ⟨l.toArray⟩
theorem bl_mk' (l : List UInt8) : bl (mk l) = l := bl_mk l
theorem mk_app (a b : List UInt8) : mk a ++ mk b = mk (a ++ b) := bl_inj (by rw [bl_append, bl_mk', bl_mk', bl_mk'])
theorem mk_of (s : ByteArray) : mk (bl s) = s := bl_back s
theorem mk_size' (l : List UInt8) : (mk l).size = l.length := by rw [← bl_length, bl_mk']
theorem numC (e : Int) (w : World) : Calls Tryz.prog 13 #[.int .i64 e] w fun r w' => r = .returned (.int .i64 e) ∧ w' = w := by
  go_enter Tryz.func13, Tryz.ntmps13
  go_wp2
  go_ret
  exact ⟨rfl, rfl⟩
theorem ret_text {a b : ByteArray} (h : a = b) : Ending.returned (.string a) = .returned (.string b) := by rw [h]
/-- Texts held against the same texts. -/
theorem tx_at {w : World} {o : Option Addr} {ss : List ByteArray} (h : IsTx w o ss) (h1 : 1 ≤ ss.length) : ∃ x, o = some x ∧ LiesT w x ss := by
  rcases h.2 with rfl | h
  · cases h1
  · exact h
theorem same_no (t : ByteArray) : (t.toList != t.toList) = false := by rw [bne_eq_false_iff_eq]
set_option maxRecDepth 20000 in
set_option maxHeartbeats 800000 in
theorem sameTexts (o p : Option Addr) (c d : Nat) (ss : List ByteArray) (hn : ss.length ≤ 140737488355328) (w : World) (ho : Hid (IsTx w o ss)) (hp : Hid (IsTx w p ss)) :
    Calls Tryz.prog 21 #[.slice o ss.length c, .slice p ss.length d] w fun r w' => r = .returned (.bool true) ∧ Below w.heap.size w w' := by
  have hq : (((ss.length : Nat) : Int) != ((ss.length : Nat) : Int)) = false := by rw [bne_eq_false_iff_eq]
  go_enter Tryz.func21, Tryz.ntmps21
  go_wp2_with fail
  go_loopw [5] (fun t wr => ∃ k : Nat, k ≤ ss.length ∧ t = .int .i64 (k : Int) ∧ Below w.heap.size w wr) (fun t _ => ss.length - (intOf t).toNat)
  case atStart => exact ⟨0, Nat.zero_le _, rfl, Below.refl _ _⟩
  case round =>
    obtain ⟨k, hk, rfl, hbl⟩ := hrel
    by_cases hlt : k < ss.length
    · obtain ⟨x, rfl, hx⟩ := tx_at ho.out (by omega)
      obtain ⟨y, rfl, hy⟩ := tx_at hp.out (by omega)
      have c1 := Tree.cell_later hbl (hx k hlt)
      have c2 := Tree.cell_later hbl (hy k hlt)
      have hne := same_no (ss.getD k ByteArray.empty)
      have j0 : (0 : Int) ≤ (k : Int) := Int.natCast_nonneg _
      have j1 : (k : Int) < (ss.length : Int) := by omega
      clear hx hy
      generalize ss.getD k ByteArray.empty = u at *
      go_wp2_with fail
      go_quiet (fail)
      have HB : Hid (Below w.heap.size w (wr.drewN nq)) := below_drewN hbl nq
      clear hbl
      go_wp2
      go_roundw
      case rel => exact ⟨k + 1, by omega, by go_num, HB.out⟩
      case measure => simp [intOf]; omega
    · obtain rfl : k = ss.length := by omega
      go_wp2
      go_ret
      exact ⟨rfl, hbl⟩
end Go.Proofs.YthbjeedmhgnnaaaGreat.Val
namespace Go.Proofs.YthbjeedmhgnnaaaGreat.Val
open Go.ChangeShapes Go.WideShapes Go.ChangeAt Go.RowKit

end Go.Proofs.YthbjeedmhgnnaaaGreat.Val
namespace Go.Proofs.YthbjeedmhgnnaaaGreat.Val
open Go.ChangeShapes Go.WideShapes Go.ChangeAt Go.RowKit

end Go.Proofs.YthbjeedmhgnnaaaGreat.Val
namespace Go.Proofs.YthbjeedmhgnnaaaGreat.Val
open Go.ChangeShapes Go.WideShapes Go.ChangeAt Go.RowKit

/-- A value that was taken, in a block. -/
structure Bx (w : World) (g : Nat) (k : Int) (v c : ByteArray) : Prop where
  blk : w.heap[g]? = some (.cells #[.int .i64 k, .string v, .string c] 46 (0, 0))
theorem Bx.lt {w : World} {g : Nat} {k : Int} {v c : ByteArray} (h : Bx w g k v c) : g < w.heap.size := by
  by_cases d : g < w.heap.size
  · exact d
  · have := h.blk
    rw [Array.getElem?_eq_none (by omega)] at this
    cases this
theorem Bx.c0 {w : World} {g : Nat} {k : Int} {v c : ByteArray} (h : Bx w g k v c) : w.cell? ⟨g, 0, none⟩ = some (.int .i64 k) := by simp [World.cell?, h.blk]
theorem Bx.c1 {w : World} {g : Nat} {k : Int} {v c : ByteArray} (h : Bx w g k v c) : w.cell? ⟨g, 1, none⟩ = some (.string v) := by simp [World.cell?, h.blk]
theorem Bx.c2 {w : World} {g : Nat} {k : Int} {v c : ByteArray} (h : Bx w g k v c) : w.cell? ⟨g, 2, none⟩ = some (.string c) := by simp [World.cell?, h.blk]
theorem Bx.fz {w : World} {g : Nat} {k : Int} {v c : ByteArray} (h : Bx w g k v c) (o : Nat) : w.frozen? ⟨g, o, none⟩ = false := by simp [World.frozen?, h.blk]
theorem Bx.later {w w' : World} {g : Nat} {k : Int} {v c : ByteArray} (h : Bx w g k v c) (hb : Below w.heap.size w w') : Bx w' g k v c := ⟨(hb.block g h.lt).trans h.blk⟩
theorem Bx.put {w : World} {g : Nat} {k : Int} {v c : ByteArray} (h : Bx w g k v c) (k' : Int) (v' c' : ByteArray) :
    ∃ w1, ((w.setCell ⟨g, 0, none⟩ (.int .i64 k')).setCell ⟨g, 1, none⟩ (.string v')).setCell ⟨g, 2, none⟩ (.string c') = w1 ∧ Bx w1 g k' v' c' ∧ Mv g w w1 := by
  refine ⟨_, rfl, ⟨?_⟩, ((Mv.set g w 0 _).trans (Mv.set g _ 1 _)).trans (Mv.set g _ 2 _)⟩
  simp only [World.setCell, Array.getElem?_modify, if_true, h.blk, Option.map_some]
  rfl
theorem Mv.own {b g : Nat} {u v w : World} (h : Mv b u v) (k : Mv g v w) (hg : u.heap.size ≤ g) : Mv b u w :=
  ⟨k.os.trans h.os, k.tape.trans h.tape, k.output.trans h.output, Nat.le_trans h.size k.size, fun i hi hb => (k.block i (Nat.lt_of_lt_of_le hi h.size) (by omega)).trans (h.block i hi hb)⟩
end Go.Proofs.YthbjeedmhgnnaaaGreat.Val
namespace Go.Proofs.YthbjeedmhgnnaaaGreat.Val
open Go.ChangeShapes Go.WideShapes Go.ChangeAt Go.RowKit

/-- A taker that is made. -/
theorem made (w : World) (s : ByteArray) : ∃ w1, w.alloc (.cells #[.string s, .int .i64 0] 66) = w1 ∧ Tk w1 w.heap.size s 0 ∧ Below w.heap.size w w1 ∧ w1.heap.size = w.heap.size + 1 :=
  ⟨_, rfl, ⟨heap_alloc_new _ _⟩, (Below.refl _ _).alloc (Nat.le_refl _) _, by simp⟩
end Go.Proofs.YthbjeedmhgnnaaaGreat.Val
namespace Go.Proofs.YthbjeedmhgnnaaaGreat.Val
open Go.ChangeShapes Go.WideShapes Go.ChangeAt Go.RowKit
open Tree (own_slice own_mono)

theorem Mv.grown {b : Nat} {u v w : World} {row : Option Nat} (h : Mv b u v) (hg : v.grownBy w row) (hr : ∀ k, row = some k → u.heap.size ≤ k) : Mv b u w :=
  ⟨hg.os.trans h.os, hg.tape.trans h.tape, hg.output.trans h.output, Nat.le_trans h.size hg.size, fun k hk hb => (hg.block k (Nat.lt_of_lt_of_le hk h.size) (fun e => by have := hr k e.symm; omega)).trans (h.block k hk hb)⟩
theorem Tk.grown {w w' : World} {b : Nat} {s : ByteArray} {p : Nat} {row : Option Nat} (h : Tk w b s p) (hg : w.grownBy w' row) (hr : ∀ k, row = some k → b < k) : Tk w' b s p :=
  ⟨(hg.block b h.lt (fun e => by have := hr b e.symm; omega)).trans h.blk⟩
end Go.Proofs.YthbjeedmhgnnaaaGreat.Val
namespace Go.Proofs.YthbjeedmhgnnaaaGreat.Val
open Go.ChangeShapes Go.WideShapes Go.ChangeAt Go.RowKit
open Tree (own_slice own_mono)
open Texts (cellsT cellsT_snoc)

theorem info9 : (Tryz.prog.info? 9).map (fun i => (i.zero, i.size, i.bytes)) = some (some (.string ⟨#[]⟩), 1, 16) := by kernel_rfl
/-- A row of one text. -/
theorem own_one (w : World) (s : ByteArray) : (w.alloc (.cells #[.string s] 9)).ownsRow w.heap.size 9 1 (.slice (some ⟨w.heap.size, 0, none⟩) 1 1) 1 (cellsT [s]) :=
  ⟨rfl, .inr ⟨w.heap.size, 1, #[.string s], rfl, Nat.le_refl _, heap_alloc_new _ _, Nat.le_refl _, by unfold maxLen; omega, rfl, rfl⟩⟩
/-- What a value that was taken is made of. -/
def PartsA (k : Int) (c : ByteArray) (ps : List ByteArray) : Prop := k = -1 ∧ ps = [] ∨ (k = 3 ∨ k = 4) ∧ Row4 c ps ∨ (k ≠ -1 ∧ k ≠ 3 ∧ k ≠ 4) ∧ ps = [c]
theorem Bx.one (w : World) (k : Int) (v c : ByteArray) : Bx (w.alloc (.cells #[.int .i64 k, .string v, .string c] 46)) w.heap.size k v c := ⟨heap_alloc_new _ _⟩
/-- Values that were taken, from an address on. -/
structure KLies (w : World) (x : Addr) (vs : List ByteArray) : Prop where
  kind : ∀ i, i < vs.length → w.cell? (x.add (i * 3)) = some (.int .i64 (kindOf (bl (vs.getD i ByteArray.empty))))
  all : ∀ i, i < vs.length → w.cell? (x.add (i * 3 + 1)) = some (.string (vs.getD i ByteArray.empty))
  body : ∀ i, i < vs.length → w.cell? (x.add (i * 3 + 2)) = some (.string (bodyS (vs.getD i ByteArray.empty)))
theorem KLies.later {w w' : World} {x : Addr} {vs : List ByteArray} (h : KLies w x vs) (hb : Below w.heap.size w w') : KLies w' x vs :=
  ⟨fun i hi => Tree.cell_later hb (h.kind i hi), fun i hi => Tree.cell_later hb (h.all i hi), fun i hi => Tree.cell_later hb (h.body i hi)⟩
theorem mk_size (l : List UInt8) : (⟨l.toArray⟩ : ByteArray).size = l.length := by rw [← bl_length, bl_mk]
theorem flat_mk (ps : List (List UInt8)) : flat (ps.map fun l => (⟨l.toArray⟩ : ByteArray)) = ps.flatten := by
  unfold flat
  rw [List.map_map, show (bl ∘ fun l : List UInt8 => (⟨l.toArray⟩ : ByteArray)) = id from funext fun l => bl_mk l, List.map_id]
theorem row_mk {v : ByteArray} {ps : List (List UInt8)} (h1 : bodyOf (bl v) = ps.flatten) (h2 : ∀ p ∈ ps, val 3 p = some p.length) : Row4 (bodyS v) (ps.map fun l => (⟨l.toArray⟩ : ByteArray)) := by
  refine ⟨by rw [bl_bodyS, h1, flat_mk], fun u hu => ?_⟩
  obtain ⟨p, hp, rfl⟩ := List.mem_map.1 hu
  rw [bl_mk, mk_size]
  exact val_up 3 4 (by omega) _ _ (h2 p hp)
theorem parts_told {s : ByteArray} (hv : isVal (bl s)) : ∃ ps, partsS s = some (kindOf (bl s), ps) ∧ PartsA (kindOf (bl s)) (bodyS s) ps := by
  obtain ⟨k, ps, h, hm⟩ := parts_made hv
  have hs : partsS s = some (k, ps.map fun l => (⟨l.toArray⟩ : ByteArray)) := by
    unfold partsS
    rw [h]
    rfl
  rcases hm with ⟨rfl, rfl, e⟩ | ⟨x, _, rfl, rfl, e⟩ | ⟨b, rfl, rfl, e⟩ | ⟨t, rfl, rfl, e⟩ | ⟨rfl, e, hp⟩ | ⟨rfl, e, hp⟩
  · have hk : kindOf (bl s) = -1 := by rw [e]; rfl
    rw [hk]
    exact ⟨_, hs, .inl ⟨rfl, rfl⟩⟩
  · have hk : kindOf (bl s) = 0 := by rw [e]; rfl
    have hb : bodyOf (bl s) = intD x := by
      rw [e]
      show (intD x ++ [59]).dropLast = _
      rw [List.dropLast_concat]
    rw [hk]
    exact ⟨_, hs, .inr (.inr ⟨by decide, by unfold bodyS; rw [hb]; rfl⟩)⟩
  · have hk : kindOf (bl s) = 1 := by rw [e]; cases b <;> rfl
    have hb : bodyOf (bl s) = boolM b := by rw [e]; cases b <;> rfl
    rw [hk]
    exact ⟨_, hs, .inr (.inr ⟨by decide, by unfold bodyS; rw [hb]; rfl⟩)⟩
  · have hk : kindOf (bl s) = 2 := by rw [e]; rfl
    have hb : bodyOf (bl s) = t := by
      rw [e]
      unfold bytesM
      have hs2 : seek 58 (dig t.length ++ 58 :: t) = some (dig t.length).length := by
        refine seek_app _ _ fun b hb e => ?_
        have := dig_digit _ b hb
        rw [e] at this
        exact absurd this.2 (by decide)
      rw [bodyOf_s, hs2]
      show (dig t.length ++ 58 :: t).drop ((dig t.length).length + 1) = t
      rw [show dig t.length ++ 58 :: t = (dig t.length ++ [58]) ++ t from by simp, List.drop_append_of_le_length (by simp), List.drop_eq_nil_of_le (by simp)]
      rfl
    rw [hk]
    exact ⟨_, hs, .inr (.inr ⟨by decide, by unfold bodyS; rw [hb]; rfl⟩)⟩
  · have hk : kindOf (bl s) = 3 := by rw [e]; rfl
    have hb : bodyOf (bl s) = ps.flatten := by
      rw [e]
      show (ps.flatten ++ [93]).dropLast = _
      rw [List.dropLast_concat]
    rw [hk]
    exact ⟨_, hs, .inr (.inl ⟨.inl rfl, row_mk hb hp⟩)⟩
  · have hk : kindOf (bl s) = 4 := by rw [e]; rfl
    have hb : bodyOf (bl s) = ps.flatten := by
      rw [e]
      show (ps.flatten ++ [125]).dropLast = _
      rw [List.dropLast_concat]
    rw [hk]
    exact ⟨_, hs, .inr (.inl ⟨.inr rfl, row_mk hb hp⟩)⟩
theorem body_size (s : ByteArray) (hs : s.size ≤ 65536) : (bodyS s).size ≤ 65536 := by
  rw [← bl_length, bl_bodyS]
  rw [← bl_length] at hs
  cases h : bl s with
  | nil => exact Nat.zero_le _
  | cons b r =>
    rw [h] at hs
    have hr : r.length ≤ 65535 := by simpa using hs
    rw [bodyOf]
    split
    · exact Nat.zero_le _
    · split
      · rw [List.length_dropLast]
        omega
      · split
        · split
          · exact Nat.zero_le _
          · rw [List.length_drop]
            omega
        · simp
/-- What Parts tells of a text. -/
def TellA (s : ByteArray) (k : Int) (ps : List ByteArray) (E : Int) : Prop := partsS s = some (k, ps) ∧ E = 0 ∨ partsS s = none ∧ k = 0 ∧ ps = [] ∧ E = 700
end Go.Proofs.YthbjeedmhgnnaaaGreat.Val
namespace Go.Proofs.YthbjeedmhgnnaaaGreat.Val
open Tree

theorem below_up {f : Nat} (hf : f ≤ 5) {l : List UInt8} {k : Nat} (h : below f l = some k) : val 4 l = some k := by
  cases f with
  | zero => cases h
  | succ f => exact val_up f 4 (by omega) _ _ h
theorem isVal_below {f : Nat} (hf : f ≤ 5) {v : ByteArray} (hs : v.size ≤ 65536) (h : below f (bl v) = some v.size) : isVal (bl v) :=
  ⟨by rw [bl_length]; exact hs, by rw [bl_length]; exact below_up hf h⟩
theorem nest_parts {f : Nat} (hf : f ≤ 4) {v : ByteArray} (hs : v.size ≤ 65536) (h : val f (bl v) = some v.size) (hk : kindOf (bl v) = 3 ∨ kindOf (bl v) = 4) :
    ∃ ps : List ByteArray, partsS v = some (kindOf (bl v), ps) ∧ Row4 (bodyS v) ps ∧ ∀ p ∈ ps, below f (bl p) = some p.size := by
  rw [← bl_length] at h
  obtain ⟨qs, h1, h2, h3, h4, h5⟩ := row_of_nest hf h hk
  have h6 : ∀ p ∈ qs, val 3 p = some p.length := by
    intro p hp
    have := h3 p hp
    cases f with
    | zero => cases this
    | succ f => exact val_up f 3 (by omega) _ _ this
  refine ⟨qs.map fun l => ⟨l.toArray⟩, ?_, row_mk h1 h6, fun p hp => ?_⟩
  · unfold partsS
    rcases hk with c | c
    · have e := h4 c
      have hl : (listM qs).length ≤ 65536 := by rw [← e, bl_length]; exact hs
      rw [c, e, parts_list qs h6 hl]
      rfl
    · have e := h5 c
      have hl : (structM qs).length ≤ 65536 := by rw [← e, bl_length]; exact hs
      rw [c, e, parts_struct qs h6 hl]
      rfl
  · obtain ⟨q, hq, rfl⟩ := List.mem_map.1 hp
    rw [bl_mk, mk_size]
    exact h3 q hq
theorem fitsF_succ (ns : List Nd) (f a : Nat) (v : ByteArray) : fitsF ns (f + 1) a v = match partsS v with
    | none => false
    | some (k, ps) =>
      if k < 0 then (nd ns a).null
      else if k ≠ (nd ns a).kind then false
      else if k = 2 then decide ((ps.getD 0 ByteArray.empty).size ≤ 16)
      else if k = 3 then decide (ps.length ≤ 64) && ps.all (fitsF ns f ((kids ns a).getD 0 0))
      else if k = 4 then decide (ps.length = (kids ns a).length) && ((kids ns a).zip ps).all fun q => fitsF ns f q.1 q.2
      else true := rfl
theorem kindOf_in (l : List UInt8) : -1 ≤ kindOf l ∧ kindOf l ≤ 4 := by
  cases l with
  | nil => exact ⟨by decide, by decide⟩
  | cons b r =>
    rw [kindOf]
    split
    · exact ⟨by decide, by decide⟩
    · split
      · exact ⟨by decide, by decide⟩
      · split
        · exact ⟨by decide, by decide⟩
        · split
          · exact ⟨by decide, by decide⟩
          · split
            · exact ⟨by decide, by decide⟩
            · exact ⟨by decide, by decide⟩
theorem fits_null {ns : List Nd} {f a : Nat} (hf : f ≤ 4) {v : ByteArray} (hs : v.size ≤ 65536) (h : val f (bl v) = some v.size) (hk : kindOf (bl v) = -1) : fitsF ns (f + 1) a v = (nd ns a).null := by
  obtain ⟨ps, h1, _⟩ := parts_told (isVal_below (f := f + 1) (by omega) hs h)
  rw [fitsF_succ, h1]
  show (if kindOf (bl v) < 0 then _ else _) = _
  rw [if_pos (by omega)]
theorem fits_other {ns : List Nd} {f a : Nat} (hf : f ≤ 4) {v : ByteArray} (hs : v.size ≤ 65536) (h : val f (bl v) = some v.size) (hk : kindOf (bl v) ≠ -1) (hn : kindOf (bl v) ≠ (nd ns a).kind) : fitsF ns (f + 1) a v = false := by
  obtain ⟨ps, h1, _⟩ := parts_told (isVal_below (f := f + 1) (by omega) hs h)
  have := kindOf_in (bl v)
  rw [fitsF_succ, h1]
  show (if kindOf (bl v) < 0 then _ else if kindOf (bl v) ≠ (nd ns a).kind then _ else _) = _
  rw [if_neg (by omega), if_pos hn]
theorem fits_bytes {ns : List Nd} {f a : Nat} (hf : f ≤ 4) {v : ByteArray} (hs : v.size ≤ 65536) (h : val f (bl v) = some v.size) (hk : kindOf (bl v) = 2) (hn : (nd ns a).kind = 2) : fitsF ns (f + 1) a v = decide ((bodyS v).size ≤ 16) := by
  obtain ⟨ps, h1, h2⟩ := parts_told (isVal_below (f := f + 1) (by omega) hs h)
  rw [hk] at h1 h2
  rw [fitsF_succ, h1]
  show (if (2 : Int) < 0 then _ else if (2 : Int) ≠ (nd ns a).kind then _ else if (2 : Int) = 2 then decide ((ps.getD 0 ByteArray.empty).size ≤ 16) else _) = _
  rw [if_neg (by decide), if_neg (by rw [hn]; decide), if_pos rfl]
  rcases h2 with ⟨c, _⟩ | ⟨c, _⟩ | ⟨_, rfl⟩
  · cases c
  · rcases c with c | c <;> cases c
  · rfl
theorem fits_leaf {ns : List Nd} {f a : Nat} (hf : f ≤ 4) {v : ByteArray} (hs : v.size ≤ 65536) (h : val f (bl v) = some v.size) (hk : kindOf (bl v) = 0 ∨ kindOf (bl v) = 1) (hn : kindOf (bl v) = (nd ns a).kind) : fitsF ns (f + 1) a v = true := by
  obtain ⟨ps, h1, h2⟩ := parts_told (isVal_below (f := f + 1) (by omega) hs h)
  rw [fitsF_succ, h1]
  show (if kindOf (bl v) < 0 then _ else if kindOf (bl v) ≠ (nd ns a).kind then _ else if kindOf (bl v) = 2 then _ else if kindOf (bl v) = 3 then _ else if kindOf (bl v) = 4 then _ else true) = _
  rw [if_neg (by omega), if_neg (by rw [hn]; exact fun c => c rfl), if_neg (by omega), if_neg (by omega), if_neg (by omega)]
theorem fits_list {ns : List Nd} {f a : Nat} {v : ByteArray} {ps : List ByteArray} (h1 : partsS v = some (kindOf (bl v), ps)) (hk : kindOf (bl v) = 3) (hn : (nd ns a).kind = 3) : fitsF ns (f + 1) a v = (decide (ps.length ≤ 64) && ps.all (fitsF ns f ((kids ns a).getD 0 0))) := by
  rw [hk] at h1
  rw [fitsF_succ, h1]
  show (if (3 : Int) < 0 then _ else if (3 : Int) ≠ (nd ns a).kind then _ else if (3 : Int) = 2 then _ else if (3 : Int) = 3 then _ else _) = _
  rw [if_neg (by decide), if_neg (by rw [hn]; decide), if_neg (by decide), if_pos rfl]
theorem fits_struct {ns : List Nd} {f a : Nat} {v : ByteArray} {ps : List ByteArray} (h1 : partsS v = some (kindOf (bl v), ps)) (hk : kindOf (bl v) = 4) (hn : (nd ns a).kind = 4) : fitsF ns (f + 1) a v = (decide (ps.length = (kids ns a).length) && ((kids ns a).zip ps).all fun q => fitsF ns f q.1 q.2) := by
  rw [hk] at h1
  rw [fitsF_succ, h1]
  show (if (4 : Int) < 0 then _ else if (4 : Int) ≠ (nd ns a).kind then _ else if (4 : Int) = 2 then _ else if (4 : Int) = 3 then _ else if (4 : Int) = 4 then _ else _) = _
  rw [if_neg (by decide), if_neg (by rw [hn]; decide), if_neg (by decide), if_neg (by decide), if_pos rfl]
theorem allTo_congr {p q : Nat → Bool} : ∀ {n : Nat}, (∀ i, i < n → p i = q i) → allTo p n = allTo q n
  | 0, _ => rfl
  | n + 1, h => by
    show (allTo p n && p n) = (allTo q n && q n)
    rw [allTo_congr (n := n) (fun i hi => h i (by omega)), h n (Nat.lt_succ_self _)]
/-- All of a list, by places. -/
theorem all_to (ps : List ByteArray) (q : ByteArray → Bool) : ps.all q = allTo (fun i => q (ps.getD i ByteArray.empty)) ps.length := by
  have key : ∀ k, k ≤ ps.length → (ps.take k).all q = allTo (fun i => q (ps.getD i ByteArray.empty)) k := by
    intro k
    induction k with
    | zero => intro _; rfl
    | succ k ih =>
      intro hk
      rw [take_text ps k hk, List.all_append, ih (by omega), allTo]
      simp
  have := key ps.length (Nat.le_refl _)
  rw [List.take_length] at this
  exact this
theorem zip_to (ks : List Nat) (ps : List ByteArray) (h : ps.length = ks.length) (q : Nat → ByteArray → Bool) : ((ks.zip ps).all fun x => q x.1 x.2) = allTo (fun i => q (ks.getD i 0) (ps.getD i ByteArray.empty)) ks.length := by
  have key : ∀ k, k ≤ ks.length → ((ks.take k).zip (ps.take k)).all (fun x => q x.1 x.2) = allTo (fun i => q (ks.getD i 0) (ps.getD i ByteArray.empty)) k := by
    intro k
    induction k with
    | zero => intro _; rfl
    | succ k ih =>
      intro hk
      have hkt : ks.take (k + 1) = ks.take k ++ [ks.getD k 0] := by rw [List.take_succ_eq_append_getElem hk, List.getD_eq_getElem?_getD, List.getElem?_eq_getElem hk]; rfl
      rw [take_text ps k (by omega), hkt, List.zip_append (by rw [List.length_take, List.length_take]; omega), List.all_append, ih (by omega), allTo]
      simp
  have := key ks.length (Nat.le_refl _)
  rw [List.take_length, ← h, List.take_length, h] at this
  exact this
/-- Enough is enough. -/
theorem fits_fuel {ns : List Nd} : ∀ (f g a : Nat) (v : ByteArray), f ≤ 5 → f ≤ g → v.size ≤ 65536 → below f (bl v) = some v.size → fitsF ns g a v = fitsF ns f a v := by
  intro f
  induction f with
  | zero => intro g a v _ _ _ h; cases h
  | succ f ih =>
    intro g a v hf hg hs h
    obtain ⟨g, rfl⟩ : ∃ x, g = x + 1 := ⟨g - 1, by omega⟩
    have hv : val f (bl v) = some v.size := h
    by_cases hk : kindOf (bl v) = 3 ∨ kindOf (bl v) = 4
    · obtain ⟨ps, h1, h2, h3⟩ := nest_parts (by omega) hs hv hk
      have hsz : ∀ p ∈ ps, p.size ≤ 65536 := fun p hp => by
        have hb := body_size v hs
        obtain ⟨i, hi, e⟩ := List.getElem_of_mem hp
        have := h2.pos_le (i + 1)
        rw [pos_succ ps i hi, getD_text ps i hi, e] at this
        omega
      rw [fitsF_succ, fitsF_succ, h1]
      simp only
      have e1 : ps.all (fitsF ns g ((kids ns a).getD 0 0)) = ps.all (fitsF ns f ((kids ns a).getD 0 0)) := by
        rw [all_to, all_to]
        refine allTo_congr fun i hi => ?_
        have hm := getD_memT ps i hi
        exact ih g _ _ (by omega) (by omega) (hsz _ hm) (h3 _ hm)
      have e2 : (((kids ns a).zip ps).all fun q => fitsF ns g q.1 q.2) = (((kids ns a).zip ps).all fun q => fitsF ns f q.1 q.2) := by
        rw [Bool.eq_iff_iff, List.all_eq_true, List.all_eq_true]
        constructor
        · intro hh q hq
          have hm := (List.of_mem_zip hq).2
          rw [← ih g q.1 q.2 (by omega) (by omega) (hsz _ hm) (h3 _ hm)]
          exact hh q hq
        · intro hh q hq
          have hm := (List.of_mem_zip hq).2
          rw [ih g q.1 q.2 (by omega) (by omega) (hsz _ hm) (h3 _ hm)]
          exact hh q hq
      rw [e1, e2]
    · obtain ⟨ps, h1, _⟩ := parts_told (isVal_below hf hs h)
      rw [fitsF_succ, fitsF_succ, h1]
      simp only
      have c3 : ¬ kindOf (bl v) = 3 := fun c => hk (.inl c)
      have c4 : ¬ kindOf (bl v) = 4 := fun c => hk (.inr c)
      rw [if_neg c3, if_neg c4, if_neg c3, if_neg c4]
end Go.Proofs.YthbjeedmhgnnaaaGreat.Val
