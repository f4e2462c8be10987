/-
  Several texts in one: Numbers in bytes: contracts (carried). · The small functions of package array, and an array in a box: contracts. · Short texts, bits, numbers of an array: areShort, hasBits, mayLack, isThere, isBelow, shorts: contracts. · Package cells: number, Short, IsThere: contracts. · Rows of numbers: shorts, IsSorted, every.One and every.Pair over ints, beside: contracts. · A region that draws its order, in a class of worlds: those in which all that was there still stands. · Numbers beside each other, ends of an array: every.Pair over ints, beside, hasEnds, areNear, mayLack: contracts.
-/
import Derived.Test.YtcpfhfdgfcilaaaGreatDoorB04
import Derived.Test.YtcpfhfdgfcilaaaGreatDoorProg
import Derived.WalkKit
import Derived.ProofKit
import Derived.OpenShut
import Derived.Below
import Derived.RegionTactic
import Derived.ChangeAlike
import Derived.Laws.IdiomStrings
import Derived.OwnWalk
import Derived.Test.YtcpfhfdgfcilaaaGreatDoorB01
import Derived.Test.YtcpfhfdgfcilaaaGreatDoorB02
import Derived.Deep.RegionWith
import Derived.Deep.QuietTactic
import Derived.BigQuiet
import Derived.WalkSmall
namespace Go.Proofs.YtcpfhfdgfcilaaaGreatDoor.Fix
open Go.ChangeShapes Go.WideShapes Go.ChangeAt Go.RowKit

theorem bel {a b c : World} (h : Below a.heap.size a b) (k : Below b.heap.size b c) : Below a.heap.size a c := h.trans (k.mono h.size)
theorem ret_bool {a b : Bool} (h : a = b) : Ending.returned (.bool a) = .returned (.bool b) := by rw [h]
theorem ret2_str {a b : List UInt8} {y : Value} (h : a = b) : Ending.returned (.tuple #[.string ⟨a.toArray⟩, y]) = .returned (.tuple #[.string ⟨b.toArray⟩, y]) := by rw [h]

theorem num (e : Int) (w : World) :
    Calls Tryz.prog 18 #[.int .i64 e] w fun r w' => r = .returned (.int .i64 e) ∧ w' = w := by
  go_enter Tryz.func18, Tryz.ntmps18
  go_wp2
  go_ret
  exact ⟨rfl, rfl⟩

/-- May a number be laid down in so many bytes? -/
def sizeB (n : Int) : Bool := decide (n = 4 ∨ n = 8)
theorem isSize (x : Int) (w : World) :
    Calls Tryz.prog 222 #[.int .i64 x] w fun r w' => r = .returned (.bool (sizeB x)) ∧ w' = w := by
  by_cases h : x = 4
  · subst h
    rw [show sizeB 4 = true from by decide]
    go_enter Tryz.func222, Tryz.ntmps222
    go_wp2
    go_ret
    exact ⟨rfl, rfl⟩
  · by_cases h8 : x = 8
    · subst h8
      rw [show sizeB 8 = true from by decide]
      go_enter Tryz.func222, Tryz.ntmps222
      go_wp2
      go_ret
      exact ⟨rfl, rfl⟩
    · rw [show sizeB x = false from decide_eq_false (by omega)]
      go_enter Tryz.func222, Tryz.ntmps222
      go_wp2
      go_ret
      exact ⟨ret_bool (by simp [h, h8]), rfl⟩
/-- Is it from 0 to Most? -/
def shortB (x : Int) : Bool := decide (0 ≤ x ∧ x ≤ 2147483647)
/-- How many bytes there are from a on. -/
def roomI (len : Nat) (a : Int) : Int := if 0 ≤ a ∧ a ≤ (len : Int) then (len : Int) - a else 0
theorem room (s : ByteArray) (a : Int) (w : World) (hs : s.size ≤ 140737488355327) :
    Calls Tryz.prog 235 #[.string s, .int .i64 a] w fun r w' => r = .returned (.int .i64 (roomI s.size a)) ∧ w' = w := by
  by_cases h : 0 ≤ a
  · by_cases h2 : a ≤ (s.size : Int)
    · rw [show roomI s.size a = (s.size : Int) - a from if_pos ⟨h, h2⟩]
      go_enter Tryz.func235, Tryz.ntmps235
      go_wp2
      go_ret
      exact ⟨rfl, rfl⟩
    · rw [show roomI s.size a = 0 from if_neg (by omega)]
      go_enter Tryz.func235, Tryz.ntmps235
      go_wp2
      go_ret
      exact ⟨rfl, rfl⟩
  · rw [show roomI s.size a = 0 from if_neg (by omega)]
    go_enter Tryz.func235, Tryz.ntmps235
    go_wp2
    go_ret
    exact ⟨rfl, rfl⟩

/-- So many bytes lie at the head of block g, and may be written. -/
structure Bytes (w : World) (g : Nat) (l : List UInt8) : Prop where
  cell : ∀ i, i < l.length → w.cell? ⟨g, i, none⟩ = some (.int .u8 (((l.getD i 0).toNat : Nat) : Int))
  free : ∀ i, i < l.length → w.frozen? ⟨g, i, none⟩ = false
theorem Bytes.set {w : World} {g : Nat} {l : List UInt8} (h : Bytes w g l) (j : Nat) (hj : j < l.length) (v : UInt8) : Bytes (w.setCell ⟨g, j, none⟩ (.int .u8 ((v.toNat : Nat) : Int))) g (l.set j v) := by
  constructor
  · intro i hi
    rw [List.length_set] at hi
    by_cases e : i = j
    · subst e
      rw [World.cell?_setCell_same _ _ _ (h.cell i hi), List.getD_eq_getElem?_getD, List.getElem?_set_self hi]
      rfl
    · rw [World.cell?_setCell_other _ _ _ _ (by intro c; exact e (by injection c with _ c2; exact c2.symm)), h.cell i hi, List.getD_eq_getElem?_getD, List.getD_eq_getElem?_getD, List.getElem?_set_ne (fun c => e c.symm)]
  · intro i hi
    rw [List.length_set] at hi
    rw [World.frozen?_setCell]
    exact h.free i hi
theorem Bytes.back {w : World} {g L c : Nat} {l : List UInt8} (h : Bytes w g l) (hl : L = l.length) : (convert 42 9 (.slice (some ⟨g, 0, none⟩) L c)).run Tryz.prog w = .ok (.string ⟨l.toArray⟩) w := by
  rw [hl]
  refine run_convert_bytes_back w 42 9 5 ⟨g, 0, none⟩ c l Tryz.underlying42 Tryz.underlying5 Tryz.underlying9 ?_
  intro j hj
  rw [Addr.add_lit, Nat.zero_add, h.cell j hj, List.getD_eq_getElem?_getD, List.getElem?_eq_getElem hj]
  rfl
theorem info5 : (Tryz.prog.info? 5).map (fun i => (i.zero, i.size, i.bytes)) = some (some (.int .u8 0), 1, 1) := by kernel_rfl
/-- So many zero bytes, as cells. -/
def zeros (n : Nat) : Array Value := madeCells (Value.cells (.int .u8 0)) n
theorem zeros_at (n i : Nat) (h : i < n) : (zeros n)[i]? = some (.int .u8 0) := by
  unfold zeros
  rw [← Array.getElem?_toList, show (Value.cells (.int .u8 0)) = #[.int .u8 0] from rfl, toList_madeCells_one, List.getElem?_replicate, if_pos h]
theorem Bytes.zeros (w : World) (n : Nat) : Bytes (w.alloc (.cells (zeros n) 5)) w.heap.size (List.replicate n 0) := by
  constructor
  · intro i hi
    rw [List.length_replicate] at hi
    rw [World.cell?_alloc_mark, zeros_at n i hi, List.getD_eq_getElem?_getD, List.getElem?_replicate, if_pos hi]
    rfl
  · intro i _
    rw [World.frozen?_alloc_mark]
    simp
theorem make_bytes (n : Nat) (h : n ≤ 140737488351232) (w : World) :
    ∃ w1, (Instr.makeSlice 42 (.int .i64 (n : Int)) (.int .i64 (n : Int))).run Tryz.prog w = .ok (.slice (some ⟨w.heap.size, 0, none⟩) n n) w1 ∧ Bytes w1 w.heap.size (List.replicate n 0) ∧ Below w.heap.size w w1 := by
  obtain ⟨i, hi, hz0, hz1, hz2⟩ := info_parts info5
  have := run_make (P := Tryz.prog) w 42 5 i (.int .u8 0) Tryz.underlying42 hi hz0 .i64 .i64 n n (by omega) (Int.le_refl _) (by rw [hz2]; omega) (by omega)
  rw [hz1, Nat.mul_one, Int.toNat_natCast] at this
  exact ⟨_, this, Bytes.zeros w n, (Below.refl _ _).alloc (Nat.le_refl _) _⟩

theorem getD_at (s : ByteArray) (j : Nat) (h : j < s.size) : s.data.toList.getD j 0 = s[j] := by
  have h' : j < s.data.toList.length := by simpa using h
  rw [List.getD_eq_getElem?_getD, List.getElem?_eq_getElem h']
  rfl

end Go.Proofs.YtcpfhfdgfcilaaaGreatDoor.Fix
namespace Go.Proofs.YtcpfhfdgfcilaaaGreatDoor.Fix
open Go.ChangeShapes Go.WideShapes Go.ChangeAt Go.RowKit

/-- Bytes, as cells. -/
def cells (l : List UInt8) : List Value := l.map fun b => .int .u8 ((b.toNat : Nat) : Int)
theorem refUp (x a b : Int) (w : World) :
    Calls Tryz.prog 150 #[.int .i64 x, .int .i64 a, .int .i64 b] w fun r w' => r = .returned (.bool (decide (a ≤ x ∧ x ≤ b))) ∧ w' = w := by
  by_cases h : a ≤ x
  · go_enter Tryz.func150, Tryz.ntmps150
    go_wp2
    go_ret
    exact ⟨ret_bool (by simp [h]), rfl⟩
  · go_enter Tryz.func150, Tryz.ntmps150
    go_wp2
    go_ret
    exact ⟨ret_bool (by simp; omega), rfl⟩
end Go.Proofs.YtcpfhfdgfcilaaaGreatDoor.Fix
namespace Go.Proofs.YtcpfhfdgfcilaaaGreatDoor.Fix
open Go.ChangeShapes Go.WideShapes Go.ChangeAt Go.RowKit

theorem ret_str {a b : List UInt8} (h : a = b) : Ending.returned (.string ⟨a.toArray⟩) = .returned (.string ⟨b.toArray⟩) := by rw [h]
set_option maxHeartbeats 400000 in
theorem refLow4 (x : Int) (X : Nat) (hX : IntKind.u64.wrap x = (X : Int)) (w : World) :
    Calls Tryz.prog 49 #[.int .i64 x, .int .i64 4] w fun r w' => r = .returned (.string ⟨(Plain.low X 4).toArray⟩) ∧ Below w.heap.size w w' := by
  have HX : Hid (IntKind.u64.wrap x = (X : Int)) := hX
  clear hX
  obtain ⟨w1, hmk, hb1, hbl1⟩ := make_bytes 4 (by decide) w
  rw [← Plain.lowTo_zero X] at hb1
  have hmk' : (Instr.makeSlice 42 (.int .i64 4) (.int .i64 4)).run Tryz.prog w = .ok (.slice (some ⟨w.heap.size, 0, none⟩) 4 4) w1 := hmk
  clear hmk
  go_enter Tryz.func49, Tryz.ntmps49
  go_wp2_with fail
  go_loopw [6] (fun i wr => ∃ k : Nat, k ≤ 4 ∧ i = .int .i64 k ∧ Bytes wr w.heap.size (Plain.lowTo X 4 k) ∧ Below w.heap.size w wr) (fun i _ => 4 - (intOf i).toNat)
  case atStart => exact ⟨0, by omega, rfl, hb1, hbl1⟩
  case round =>
    obtain ⟨k, hk, rfl, hb, hbl⟩ := hrel
    have HB : Hid (Bytes wr w.heap.size (Plain.lowTo X 4 k)) := hb
    clear hb hb1 hbl1 hmk'
    by_cases hlt : k < 4
    · have hc := HB.out.cell k (by rw [Plain.length_lowTo]; exact hlt)
      have hf := HB.out.free k (by rw [Plain.length_lowTo]; exact hlt)
      have HB2 : Hid (Bytes (wr.setCell ⟨w.heap.size, k, none⟩ (.int .u8 (x / 2 ^ (8 * k) % 256 : Int))) w.heap.size (Plain.lowTo X 4 (k + 1))) := by
        have := HB.out.set k (by rw [Plain.length_lowTo]; exact hlt) (UInt8.ofNat (X / 256 ^ k))
        rw [← Plain.lowTo_succ] at this
        have e : (((UInt8.ofNat (X / 256 ^ k)).toNat : Nat) : Int) = ((X / 256 ^ k : Nat) % 256 : Int) := by simp
        rw [e, ← Plain.shr_byte x X k HX.out (by omega)] at this
        exact this
      generalize ((Plain.lowTo X 4 k).getD k 0).toNat = y at *
      go_wp2
      go_roundw
      case rel => exact ⟨k + 1, by omega, by go_num, HB2.out, hbl.setCell (Nat.le_refl _) _⟩
      case measure => simp [intOf]; omega
    · have hk4 : k = 4 := by omega
      subst hk4
      have hbk := HB.out.back (L := 4) (c := 4) (Plain.length_lowTo _ _ _).symm
      go_wp2
      go_ret
      exact ⟨ret_str (Plain.lowTo_all _ _), hbl⟩
set_option maxHeartbeats 400000 in
theorem refLow8 (x : Int) (X : Nat) (hX : IntKind.u64.wrap x = (X : Int)) (w : World) :
    Calls Tryz.prog 49 #[.int .i64 x, .int .i64 8] w fun r w' => r = .returned (.string ⟨(Plain.low X 8).toArray⟩) ∧ Below w.heap.size w w' := by
  have HX : Hid (IntKind.u64.wrap x = (X : Int)) := hX
  clear hX
  obtain ⟨w1, hmk, hb1, hbl1⟩ := make_bytes 8 (by decide) w
  rw [← Plain.lowTo_zero X] at hb1
  have hmk' : (Instr.makeSlice 42 (.int .i64 8) (.int .i64 8)).run Tryz.prog w = .ok (.slice (some ⟨w.heap.size, 0, none⟩) 8 8) w1 := hmk
  clear hmk
  go_enter Tryz.func49, Tryz.ntmps49
  go_wp2_with fail
  go_loopw [6] (fun i wr => ∃ k : Nat, k ≤ 8 ∧ i = .int .i64 k ∧ Bytes wr w.heap.size (Plain.lowTo X 8 k) ∧ Below w.heap.size w wr) (fun i _ => 8 - (intOf i).toNat)
  case atStart => exact ⟨0, by omega, rfl, hb1, hbl1⟩
  case round =>
    obtain ⟨k, hk, rfl, hb, hbl⟩ := hrel
    have HB : Hid (Bytes wr w.heap.size (Plain.lowTo X 8 k)) := hb
    clear hb hb1 hbl1 hmk'
    by_cases hlt : k < 8
    · have hc := HB.out.cell k (by rw [Plain.length_lowTo]; exact hlt)
      have hf := HB.out.free k (by rw [Plain.length_lowTo]; exact hlt)
      have HB2 : Hid (Bytes (wr.setCell ⟨w.heap.size, k, none⟩ (.int .u8 (x / 2 ^ (8 * k) % 256 : Int))) w.heap.size (Plain.lowTo X 8 (k + 1))) := by
        have := HB.out.set k (by rw [Plain.length_lowTo]; exact hlt) (UInt8.ofNat (X / 256 ^ k))
        rw [← Plain.lowTo_succ] at this
        have e : (((UInt8.ofNat (X / 256 ^ k)).toNat : Nat) : Int) = ((X / 256 ^ k : Nat) % 256 : Int) := by simp
        rw [e, ← Plain.shr_byte x X k HX.out (by omega)] at this
        exact this
      generalize ((Plain.lowTo X 8 k).getD k 0).toNat = y at *
      go_wp2
      go_roundw
      case rel => exact ⟨k + 1, by omega, by go_num, HB2.out, hbl.setCell (Nat.le_refl _) _⟩
      case measure => simp [intOf]; omega
    · have hk8 : k = 8 := by omega
      subst hk8
      have hbk := HB.out.back (L := 8) (c := 8) (Plain.length_lowTo _ _ _).symm
      go_wp2
      go_ret
      exact ⟨ret_str (Plain.lowTo_all _ _), hbl⟩

end Go.Proofs.YtcpfhfdgfcilaaaGreatDoor.Fix
namespace Go.Proofs.YtcpfhfdgfcilaaaGreatDoor.Arr
open Go.ChangeShapes Go.WideShapes Go.ChangeAt Go.RowKit
open Tree

theorem drewN_below (w : World) (n : Nat) : Below w.heap.size w (w.drewN n) := below_drewN (Below.refl _ _) n
theorem bel2 {a b c : World} (h : Below a.heap.size a b) (k : Below b.heap.size b c) : Below a.heap.size a c := h.trans (k.mono h.size)
theorem ret_int {a b : Int} (h : a = b) : Ending.returned (.int .i64 a) = .returned (.int .i64 b) := by rw [h]
/-- An array as an argument. -/
def Arr.val (a : Arr) (o : Option Addr) (cap : Nat) : Value := .agg #[.int .i64 a.layout, .int .i64 a.offset, .int .i64 a.length, .string a.valid, .string a.ends, .string a.data, .slice o a.kids.length cap]
/-- An array in a box of its own. -/
structure Bx (w : World) (g : Nat) (a : Arr) (o : Option Addr) (cap : Nat) : Prop where
  blk : w.heap[g]? = some (.cells #[.int .i64 a.layout, .int .i64 a.offset, .int .i64 a.length, .string a.valid, .string a.ends, .string a.data, .slice o a.kids.length cap] 27)
theorem Bx.lt {w : World} {g : Nat} {a : Arr} {o : Option Addr} {cap : Nat} (h : Bx w g a o cap) : g < w.heap.size := by
  have := h.blk
  by_cases c : g < w.heap.size
  · exact c
  · rw [Array.getElem?_eq_none (by omega)] at this; cases this
theorem Bx.c0 {w : World} {g : Nat} {a : Arr} {o : Option Addr} {cap : Nat} (h : Bx w g a o cap) : w.cell? ⟨g, 0, none⟩ = some (.int .i64 a.layout) := by simp [World.cell?, h.blk]
theorem Bx.c1 {w : World} {g : Nat} {a : Arr} {o : Option Addr} {cap : Nat} (h : Bx w g a o cap) : w.cell? ⟨g, 1, none⟩ = some (.int .i64 a.offset) := by simp [World.cell?, h.blk]
theorem Bx.c2 {w : World} {g : Nat} {a : Arr} {o : Option Addr} {cap : Nat} (h : Bx w g a o cap) : w.cell? ⟨g, 2, none⟩ = some (.int .i64 a.length) := by simp [World.cell?, h.blk]
theorem Bx.c3 {w : World} {g : Nat} {a : Arr} {o : Option Addr} {cap : Nat} (h : Bx w g a o cap) : w.cell? ⟨g, 3, none⟩ = some (.string a.valid) := by simp [World.cell?, h.blk]
theorem Bx.c4 {w : World} {g : Nat} {a : Arr} {o : Option Addr} {cap : Nat} (h : Bx w g a o cap) : w.cell? ⟨g, 4, none⟩ = some (.string a.ends) := by simp [World.cell?, h.blk]
theorem Bx.c5 {w : World} {g : Nat} {a : Arr} {o : Option Addr} {cap : Nat} (h : Bx w g a o cap) : w.cell? ⟨g, 5, none⟩ = some (.string a.data) := by simp [World.cell?, h.blk]
theorem Bx.c6 {w : World} {g : Nat} {a : Arr} {o : Option Addr} {cap : Nat} (h : Bx w g a o cap) : w.cell? ⟨g, 6, none⟩ = some (.slice o a.kids.length cap) := by simp [World.cell?, h.blk]
theorem Bx.fz {w : World} {g : Nat} {a : Arr} {o : Option Addr} {cap : Nat} (h : Bx w g a o cap) (j : Nat) : w.frozen? ⟨g, j, none⟩ = false := by simp [World.frozen?, h.blk]
theorem Bx.later {w : World} {g : Nat} {a : Arr} {o : Option Addr} {cap : Nat} (h : Bx w g a o cap) {w' : World} (hb : Below w.heap.size w w') : Bx w' g a o cap := ⟨(hb.block g h.lt).trans h.blk⟩
theorem box7 (w : World) (a : Arr) (o : Option Addr) (cap : Nat) : ∃ w1, w.alloc (.cells #[.int .i64 a.layout, .int .i64 a.offset, .int .i64 a.length, .string a.valid, .string a.ends, .string a.data, .slice o a.kids.length cap] 27) = w1 ∧ Bx w1 w.heap.size a o cap ∧ Below w.heap.size w w1 ∧ w.heap.size < w1.heap.size :=
  ⟨_, rfl, ⟨heap_alloc_new _ _⟩, (Below.refl _ _).alloc (Nat.le_refl _) _, by simp⟩
/-- A node in a box. -/
theorem box3n (w : World) (n : Nd) : ∃ w1, w.alloc (.cells #[.int .i64 n.kind, .int .i64 n.par, .bool n.null] 40) = w1 ∧ w1.cell? ⟨w.heap.size, 0, none⟩ = some (.int .i64 n.kind) ∧ w1.cell? ⟨w.heap.size, 1, none⟩ = some (.int .i64 n.par) ∧ w1.cell? ⟨w.heap.size, 2, none⟩ = some (.bool n.null) ∧ Below w.heap.size w w1 :=
  ⟨_, rfl, by rw [World.cell?, heap_alloc_new]; rfl, by rw [World.cell?, heap_alloc_new]; rfl, by rw [World.cell?, heap_alloc_new]; rfl, (Below.refl _ _).alloc (Nat.le_refl _) _⟩

theorem rows (a : Arr) (o : Option Addr) (cap : Nat) (h0 : 0 ≤ a.offset) (h1 : 0 ≤ a.length) (h2 : a.offset + a.length ≤ 64) (w : World) :
    Calls Tryz.prog 124 #[a.val o cap] w fun r w' => r = .returned (.int .i64 ((rowsOf a : Nat) : Int)) ∧ Below w.heap.size w w' := by
  obtain ⟨w1, e1, x1, b1, z1⟩ := box7 w a o cap
  have d1 := x1.c1
  have d2 := x1.c2
  have HF : Hid (((rowsOf a : Nat) : Int) = a.offset + a.length) := by unfold Hid rowsOf; omega
  have B1 : Hid (Below w.heap.size w w1) := b1
  clear x1 b1 z1
  unfold Arr.val
  generalize rowsOf a = R at *
  generalize a.offset = p at *
  generalize a.length = q at *
  go_enter Tryz.func124, Tryz.ntmps124
  go_wp2
  go_ret
  exact ⟨ret_int HF.out.symm, B1.out⟩
def isLeafB (k : Int) : Bool := decide (k ≠ 3 ∧ k ≠ 4)
theorem isLeaf (n : Nd) (w : World) :
    Calls Tryz.prog 74 #[.agg #[.int .i64 n.kind, .int .i64 n.par, .bool n.null]] w fun r w' => r = .returned (.bool (isLeafB n.kind)) ∧ Below w.heap.size w w' := by
  obtain ⟨w1, e1, c0, c1, c2, b1⟩ := box3n w n
  have HF : Hid (isLeafB n.kind = decide (n.kind ≠ 3 ∧ n.kind ≠ 4)) := rfl
  have B1 : Hid (Below w.heap.size w w1) := b1
  clear b1
  generalize isLeafB n.kind = R at *
  generalize n.kind = k at *
  by_cases h3 : k = 3
  · have HF2 : Hid (R = false) := by unfold Hid; rw [HF.out]; exact decide_eq_false (by omega)
    subst h3
    go_enter Tryz.func74, Tryz.ntmps74
    go_wp2
    go_ret
    exact ⟨ret_bool HF2.out.symm, B1.out⟩
  · have n3 : (k == 3) = false := by rw [beq_eq_false_iff_ne]; exact h3
    by_cases h4 : k = 4
    · have HF2 : Hid (R = false) := by unfold Hid; rw [HF.out]; exact decide_eq_false (by omega)
      subst h4
      go_enter Tryz.func74, Tryz.ntmps74
      go_wp2
      go_ret
      exact ⟨ret_bool HF2.out.symm, B1.out⟩
    · have n4 : (k == 4) = false := by rw [beq_eq_false_iff_ne]; exact h4
      have HF2 : Hid (R = true) := by unfold Hid; rw [HF.out]; exact decide_eq_true ⟨h3, h4⟩
      have m3 : (k != 3) = true := by rw [bne_iff_ne]; exact h3
      have m4 : (k != 4) = true := by rw [bne_iff_ne]; exact h4
      go_enter Tryz.func74, Tryz.ntmps74
      go_wp2
      go_ret
      exact ⟨ret_bool HF2.out.symm, B1.out⟩
end Go.Proofs.YtcpfhfdgfcilaaaGreatDoor.Arr
namespace Go.Proofs.YtcpfhfdgfcilaaaGreatDoor.Arr
open Go.ChangeShapes Go.WideShapes Go.ChangeAt Go.RowKit
open Tree Val

end Go.Proofs.YtcpfhfdgfcilaaaGreatDoor.Arr
namespace Go.Proofs.YtcpfhfdgfcilaaaGreatDoor.Arr
open Go.ChangeShapes Go.WideShapes Go.ChangeAt Go.RowKit
open Tree Val

end Go.Proofs.YtcpfhfdgfcilaaaGreatDoor.Arr
namespace Go.Proofs.YtcpfhfdgfcilaaaGreatDoor.Arr
open Go.ChangeShapes Go.WideShapes Go.ChangeAt Go.RowKit
open Tree Val

/-- Ints lie in a block, from a place on. -/
def IntsAt (w : World) (g off n : Nat) (z : Nat → Int) : Prop := ∀ j, j < n → w.cell? ⟨g, off + j, none⟩ = some (.int .i64 (z j))
theorem IntsAt.later {w w' : World} {g off n : Nat} {z : Nat → Int} (h : IntsAt w g off n z) (hb : Below w.heap.size w w') : IntsAt w' g off n z := fun j hj => cell_later hb (h j hj)
end Go.Proofs.YtcpfhfdgfcilaaaGreatDoor.Arr
namespace Go.Proofs.YtcpfhfdgfcilaaaGreatDoor.Tree
open Go.ChangeShapes Go.WideShapes Go.ChangeAt Go.RowKit

/-- A world in which what w1 has still stands. -/
structure BW (w1 : World) where
  w : World
  ok : Below w1.heap.size w1 w
theorem BW.some (w1 : World) : Nonempty (BW w1) := ⟨⟨w1, Below.refl _ _⟩⟩
theorem region_in {P : Program} {C : World → Prop} {id : Nat} {Q : Exit → Act → World → Prop} {a : Act} {w : World} {l : List Oper} (hm : P.follows .mixedOrders = true) (hB : Region.lexB .any l.toArray = true) (hC : C w.drew)
    (h : wpQuiet P l.toArray C (fun a' => ∀ w', C w' → Q .normal a' w') l a) : (Code.region id l.toArray true).wp P Q a w :=
  wp_region_quiet (C := C) hm hB hC (by simpa using h)
end Go.Proofs.YtcpfhfdgfcilaaaGreatDoor.Tree
namespace Go.Proofs.YtcpfhfdgfcilaaaGreatDoor.Arr
open Go.ChangeShapes Go.WideShapes Go.ChangeAt Go.RowKit
open Tree Val

end Go.Proofs.YtcpfhfdgfcilaaaGreatDoor.Arr
