/-
  Several texts in one: Numbers in bytes: contracts (carried). · The small functions of package array, and an array in a box: contracts. · Short texts, bits, numbers of an array: areShort, hasBits, mayLack, isThere, isBelow, shorts: contracts. · Package cells: number, Short, IsThere: contracts. · Rows of numbers: shorts, IsSorted, every.One and every.Pair over ints, beside: contracts. · A region that draws its order, in a class of worlds: those in which all that was there still stands. · Numbers beside each other, ends of an array: every.Pair over ints, beside, hasEnds, areNear, mayLack: contracts.
-/
import Derived.Test.YtcpfhfdgfcilaaaGreatDoorR04
import Derived.Test.YtcpfhfdgfcilaaaGreatDoorProg
import Derived.WalkKit
import Derived.ProofKit
import Derived.OpenShut
import Derived.Below
import Derived.RegionTactic
import Derived.ChangeAlike
import Derived.Laws.IdiomStrings
import Derived.OwnWalk
import Derived.Test.YtcpfhfdgfcilaaaGreatDoorR01
import Derived.Test.YtcpfhfdgfcilaaaGreatDoorR02
import Derived.Deep.RegionWith
import Derived.Deep.QuietTactic
import Derived.BigQuiet
import Derived.WalkSmall
namespace Go.Proofs.YtcpfhfdgfcilaaaGreatDoor.Fix
open Go.ChangeShapes Go.WideShapes Go.ChangeAt Go.RowKit

theorem bel {a b c : World} (h : Below a.heap.size a b) (k : Below b.heap.size b c) : Below a.heap.size a c := h.trans (k.mono h.size)
theorem ret_bool {a b : Bool} (h : a = b) : Ending.returned (.bool a) = .returned (.bool b) := by rw [h]
theorem num (e : Int) (w : World) :
    Calls Tryz.prog 18 #[.int .i64 e] w fun r w' => r = .returned (.int .i64 e) ∧ w' = w := by
  go_enter Tryz.func18, Tryz.ntmps18
  go_wp2
  go_ret
  exact ⟨rfl, rfl⟩

/-- May a number be laid down in so many bytes? -/
def sizeB (n : Int) : Bool := decide (n = 4 ∨ n = 8)
theorem isSize (x : Int) (w : World) :
    Calls Tryz.prog 222 #[.int .i64 x] w fun r w' => r = .returned (.bool (sizeB x)) ∧ w' = w := by
  by_cases h : x = 4
  · subst h
    rw [show sizeB 4 = true from by decide]
    go_enter Tryz.func222, Tryz.ntmps222
    go_wp2
    go_ret
    exact ⟨rfl, rfl⟩
  · by_cases h8 : x = 8
    · subst h8
      rw [show sizeB 8 = true from by decide]
      go_enter Tryz.func222, Tryz.ntmps222
      go_wp2
      go_ret
      exact ⟨rfl, rfl⟩
    · rw [show sizeB x = false from decide_eq_false (by omega)]
      go_enter Tryz.func222, Tryz.ntmps222
      go_wp2
      go_ret
      exact ⟨ret_bool (by simp [h, h8]), rfl⟩
/-- How many bytes there are from a on. -/
def roomI (len : Nat) (a : Int) : Int := if 0 ≤ a ∧ a ≤ (len : Int) then (len : Int) - a else 0
theorem room (s : ByteArray) (a : Int) (w : World) (hs : s.size ≤ 140737488355327) :
    Calls Tryz.prog 235 #[.string s, .int .i64 a] w fun r w' => r = .returned (.int .i64 (roomI s.size a)) ∧ w' = w := by
  by_cases h : 0 ≤ a
  · by_cases h2 : a ≤ (s.size : Int)
    · rw [show roomI s.size a = (s.size : Int) - a from if_pos ⟨h, h2⟩]
      go_enter Tryz.func235, Tryz.ntmps235
      go_wp2
      go_ret
      exact ⟨rfl, rfl⟩
    · rw [show roomI s.size a = 0 from if_neg (by omega)]
      go_enter Tryz.func235, Tryz.ntmps235
      go_wp2
      go_ret
      exact ⟨rfl, rfl⟩
  · rw [show roomI s.size a = 0 from if_neg (by omega)]
    go_enter Tryz.func235, Tryz.ntmps235
    go_wp2
    go_ret
    exact ⟨rfl, rfl⟩

/-- So many bytes lie at the head of block g, and may be written. -/
structure Bytes (w : World) (g : Nat) (l : List UInt8) : Prop where
  cell : ∀ i, i < l.length → w.cell? ⟨g, i, none⟩ = some (.int .u8 (((l.getD i 0).toNat : Nat) : Int))
  free : ∀ i, i < l.length → w.frozen? ⟨g, i, none⟩ = false
theorem Bytes.set {w : World} {g : Nat} {l : List UInt8} (h : Bytes w g l) (j : Nat) (hj : j < l.length) (v : UInt8) : Bytes (w.setCell ⟨g, j, none⟩ (.int .u8 ((v.toNat : Nat) : Int))) g (l.set j v) := by
  constructor
  · intro i hi
    rw [List.length_set] at hi
    by_cases e : i = j
    · subst e
      rw [World.cell?_setCell_same _ _ _ (h.cell i hi), List.getD_eq_getElem?_getD, List.getElem?_set_self hi]
      rfl
    · rw [World.cell?_setCell_other _ _ _ _ (by intro c; exact e (by injection c with _ c2; exact c2.symm)), h.cell i hi, List.getD_eq_getElem?_getD, List.getD_eq_getElem?_getD, List.getElem?_set_ne (fun c => e c.symm)]
  · intro i hi
    rw [List.length_set] at hi
    rw [World.frozen?_setCell]
    exact h.free i hi
theorem info5 : (Tryz.prog.info? 5).map (fun i => (i.zero, i.size, i.bytes)) = some (some (.int .u8 0), 1, 1) := by kernel_rfl
/-- So many zero bytes, as cells. -/
def zeros (n : Nat) : Array Value := madeCells (Value.cells (.int .u8 0)) n
theorem zeros_at (n i : Nat) (h : i < n) : (zeros n)[i]? = some (.int .u8 0) := by
  unfold zeros
  rw [← Array.getElem?_toList, show (Value.cells (.int .u8 0)) = #[.int .u8 0] from rfl, toList_madeCells_one, List.getElem?_replicate, if_pos h]
theorem Bytes.zeros (w : World) (n : Nat) : Bytes (w.alloc (.cells (zeros n) 5)) w.heap.size (List.replicate n 0) := by
  constructor
  · intro i hi
    rw [List.length_replicate] at hi
    rw [World.cell?_alloc_mark, zeros_at n i hi, List.getD_eq_getElem?_getD, List.getElem?_replicate, if_pos hi]
    rfl
  · intro i _
    rw [World.frozen?_alloc_mark]
    simp
theorem getD_at (s : ByteArray) (j : Nat) (h : j < s.size) : s.data.toList.getD j 0 = s[j] := by
  have h' : j < s.data.toList.length := by simpa using h
  rw [List.getD_eq_getElem?_getD, List.getElem?_eq_getElem h']
  rfl

set_option maxHeartbeats 400000 in
theorem get8 (s : ByteArray) (a : Nat) (w : World) (hs : s.size ≤ 140737488355327) (h : a + 8 ≤ s.size) :
    Calls Tryz.prog 213 #[.string s, .int .i64 (a : Int), .int .i64 8] w fun r w' => r = .returned (.tuple #[.int .i64 (wrap64 ((Plain.val s.data.toList a 8 : Nat) : Int)), .int .i64 0]) ∧ w' = w := by
  have h1 : sizeB 8 = true := by decide
  have h2 : roomI s.size (a : Int) = (s.size : Int) - a := if_pos (by omega)
  go_enter Tryz.func213, Tryz.ntmps213
  go_wp2_with fail
  refine (isSize _ _).mono ?_
  rintro e w' ⟨rfl, rfl⟩
  rw [h1]
  go_wp2_with fail
  refine (room _ _ _ hs).mono ?_
  rintro e w' ⟨rfl, rfl⟩
  rw [h2]
  go_wp2_with fail
  go_loop [8, 21] (fun t i => ∃ k : Nat, k ≤ 8 ∧ i = .int .i64 k ∧ t = .int .u64 ((Plain.val s.data.toList a k : Nat) : Int)) (fun _ i => 8 - (intOf i).toNat)
  case atStart => exact ⟨0, by omega, rfl, rfl⟩
  case round =>
    obtain ⟨k, hk, rfl, rfl⟩ := hrel
    by_cases hlt : k < 8
    · have hx := Plain.val_lt s.data.toList a k
      have hx2 := Plain.val_lt s.data.toList a (k + 1)
      have HV : Hid (Plain.val s.data.toList a (k + 1) = Plain.val s.data.toList a k + s[a + k].toNat * 256 ^ k) := by
        unfold Hid; rw [Plain.val, getD_at s (a + k) (by omega)]
      have hb := Plain.byte_lt s[a + k]
      clear hx2
      generalize Plain.val s.data.toList a k = z at *
      go_wp2
      go_round
      case rel => exact ⟨k + 1, by omega, by go_num, by rw [HV.out, Plain.step8 z _ k hlt hx hb]⟩
      case measure => simp [intOf]; omega
    · have hk8 : k = 8 := by omega
      subst hk8
      go_wp2
      go_ret2
      exact ⟨rfl, rfl⟩
set_option maxHeartbeats 400000 in
theorem get4 (s : ByteArray) (a : Nat) (w : World) (hs : s.size ≤ 140737488355327) (h : a + 4 ≤ s.size) (hm : Plain.val s.data.toList a 4 ≤ 2147483647) :
    Calls Tryz.prog 213 #[.string s, .int .i64 (a : Int), .int .i64 4] w fun r w' => r = .returned (.tuple #[.int .i64 ((Plain.val s.data.toList a 4 : Nat) : Int), .int .i64 0]) ∧ w' = w := by
  have h1 : sizeB 4 = true := by decide
  have h2 : roomI s.size (a : Int) = (s.size : Int) - a := if_pos (by omega)
  go_enter Tryz.func213, Tryz.ntmps213
  go_wp2_with fail
  refine (isSize _ _).mono ?_
  rintro e w' ⟨rfl, rfl⟩
  rw [h1]
  go_wp2_with fail
  refine (room _ _ _ hs).mono ?_
  rintro e w' ⟨rfl, rfl⟩
  rw [h2]
  go_wp2_with fail
  go_loop [8, 21] (fun t i => ∃ k : Nat, k ≤ 4 ∧ i = .int .i64 k ∧ t = .int .u64 ((Plain.val s.data.toList a k : Nat) : Int)) (fun _ i => 4 - (intOf i).toNat)
  case atStart => exact ⟨0, by omega, rfl, rfl⟩
  case round =>
    obtain ⟨k, hk, rfl, rfl⟩ := hrel
    by_cases hlt : k < 4
    · have hx := Plain.val_lt s.data.toList a k
      have hx2 := Plain.val_lt s.data.toList a (k + 1)
      have HV : Hid (Plain.val s.data.toList a (k + 1) = Plain.val s.data.toList a k + s[a + k].toNat * 256 ^ k) := by
        unfold Hid; rw [Plain.val, getD_at s (a + k) (by omega)]
      have hb := Plain.byte_lt s[a + k]
      clear hx2
      generalize Plain.val s.data.toList a k = z at *
      go_wp2
      go_round
      case rel => exact ⟨k + 1, by omega, by go_num, by rw [HV.out, Plain.step8 z _ k (by omega) hx hb]⟩
      case measure => simp [intOf]; omega
    · have hk8 : k = 4 := by omega
      subst hk8
      go_wp2
      go_ret2
      exact ⟨rfl, rfl⟩
set_option maxHeartbeats 400000 in
theorem get4_no (s : ByteArray) (a : Nat) (w : World) (hs : s.size ≤ 140737488355327) (h : a + 4 ≤ s.size) (hm : 2147483647 < Plain.val s.data.toList a 4) :
    Calls Tryz.prog 213 #[.string s, .int .i64 (a : Int), .int .i64 4] w fun r w' => r = .returned (.tuple #[.int .i64 0, .int .i64 300]) ∧ w' = w := by
  have h1 : sizeB 4 = true := by decide
  have h2 : roomI s.size (a : Int) = (s.size : Int) - a := if_pos (by omega)
  go_enter Tryz.func213, Tryz.ntmps213
  go_wp2_with fail
  refine (isSize _ _).mono ?_
  rintro e w' ⟨rfl, rfl⟩
  rw [h1]
  go_wp2_with fail
  refine (room _ _ _ hs).mono ?_
  rintro e w' ⟨rfl, rfl⟩
  rw [h2]
  go_wp2_with fail
  go_loop [8, 21] (fun t i => ∃ k : Nat, k ≤ 4 ∧ i = .int .i64 k ∧ t = .int .u64 ((Plain.val s.data.toList a k : Nat) : Int)) (fun _ i => 4 - (intOf i).toNat)
  case atStart => exact ⟨0, by omega, rfl, rfl⟩
  case round =>
    obtain ⟨k, hk, rfl, rfl⟩ := hrel
    by_cases hlt : k < 4
    · have hx := Plain.val_lt s.data.toList a k
      have hx2 := Plain.val_lt s.data.toList a (k + 1)
      have HV : Hid (Plain.val s.data.toList a (k + 1) = Plain.val s.data.toList a k + s[a + k].toNat * 256 ^ k) := by
        unfold Hid; rw [Plain.val, getD_at s (a + k) (by omega)]
      have hb := Plain.byte_lt s[a + k]
      clear hx2
      generalize Plain.val s.data.toList a k = z at *
      go_wp2
      go_round
      case rel => exact ⟨k + 1, by omega, by go_num, by rw [HV.out, Plain.step8 z _ k (by omega) hx hb]⟩
      case measure => simp [intOf]; omega
    · have hk8 : k = 4 := by omega
      subst hk8
      generalize Plain.val s.data.toList a 4 = z at *
      go_wp2
      go_ret2
      exact ⟨rfl, rfl⟩

set_option maxHeartbeats 400000 in
theorem get_no (s : ByteArray) (a n : Int) (w : World) (hs : s.size ≤ 140737488355327) (h : ¬ ((n = 4 ∨ n = 8) ∧ 0 ≤ a ∧ a + n ≤ (s.size : Int))) :
    Calls Tryz.prog 213 #[.string s, .int .i64 a, .int .i64 n] w fun r w' => r = .returned (.tuple #[.int .i64 0, .int .i64 300]) ∧ w' = w := by
  cases h1 : sizeB n
  · clear h
    go_enter Tryz.func213, Tryz.ntmps213
    go_wp2_with fail
    refine (isSize _ _).mono ?_
    rintro e w' ⟨rfl, rfl⟩
    rw [h1]
    go_wp2
    go_ret2
    exact ⟨rfl, rfl⟩
  · have hn : n = 4 ∨ n = 8 := of_decide_eq_true h1
    have h2 : roomI s.size a < n := by
      unfold roomI
      split <;> omega
    clear h
    have HN : Hid (n = 4 ∨ n = 8) := hn
    clear hn
    go_enter Tryz.func213, Tryz.ntmps213
    go_wp2_with fail
    refine (isSize _ _).mono ?_
    rintro e w' ⟨rfl, rfl⟩
    rw [h1]
    go_wp2_with fail
    refine (room _ _ _ hs).mono ?_
    rintro e w' ⟨rfl, rfl⟩
    generalize roomI s.size a = q at *
    go_wp2
    go_ret2
    exact ⟨rfl, rfl⟩
end Go.Proofs.YtcpfhfdgfcilaaaGreatDoor.Fix
namespace Go.Proofs.YtcpfhfdgfcilaaaGreatDoor.Fix
open Go.ChangeShapes Go.WideShapes Go.ChangeAt Go.RowKit

/-- Bytes, as cells. -/
def cells (l : List UInt8) : List Value := l.map fun b => .int .u8 ((b.toNat : Nat) : Int)
end Go.Proofs.YtcpfhfdgfcilaaaGreatDoor.Fix
namespace Go.Proofs.YtcpfhfdgfcilaaaGreatDoor.Fix
open Go.ChangeShapes Go.WideShapes Go.ChangeAt Go.RowKit

theorem ret_str {a b : List UInt8} (h : a = b) : Ending.returned (.string ⟨a.toArray⟩) = .returned (.string ⟨b.toArray⟩) := by rw [h]
theorem getD_part (s : ByteArray) (a b i : Nat) (hi : i < b - a) : (s.extract a b).data.toList.getD i 0 = s.data.toList.getD (a + i) 0 := by
  have e : (s.extract a b).data.toList = (s.data.toList.drop a).take (b - a) := by simp [List.take_drop]
  rw [e, List.getD_eq_getElem?_getD, List.getD_eq_getElem?_getD, List.getElem?_take, if_pos hi, List.getElem?_drop]
theorem part (s : ByteArray) (a n : Nat) (h : a + n ≤ s.size) : ∃ p : ByteArray, p.size = n ∧ Hid (Plain.val p.data.toList 0 p.size = Plain.val s.data.toList a n) ∧
    ∀ w, (Instr.slice 9 (.string s) (some (.int .i64 (a : Int))) (some (.int .i64 ((a : Int) + (n : Int)))) none).run Tryz.prog w = .ok (.string p) w := by
  refine ⟨s.extract a (a + n), by simp; omega, ?_, fun w => ?_⟩
  · unfold Hid
    rw [show (s.extract a (a + n)).size = n from by simp; omega]
    refine Plain.val_congr _ _ _ _ _ fun i hi => ?_
    rw [Nat.zero_add, getD_part s a (a + n) i (by omega)]
  · have := run_slice_string (P := Tryz.prog) w 9 s .i64 .i64 (a : Int) ((a : Int) + (n : Int)) Tryz.underlying9 (by omega) (by omega) (by omega)
    rw [this, show ((a : Int) + (n : Int)).toNat = a + n from by omega, Int.toNat_natCast]
end Go.Proofs.YtcpfhfdgfcilaaaGreatDoor.Fix
namespace Go.Proofs.YtcpfhfdgfcilaaaGreatDoor.Arr
open Go.ChangeShapes Go.WideShapes Go.ChangeAt Go.RowKit
open Tree

theorem drewN_below (w : World) (n : Nat) : Below w.heap.size w (w.drewN n) := below_drewN (Below.refl _ _) n
theorem bel2 {a b c : World} (h : Below a.heap.size a b) (k : Below b.heap.size b c) : Below a.heap.size a c := h.trans (k.mono h.size)
theorem ret_int {a b : Int} (h : a = b) : Ending.returned (.int .i64 a) = .returned (.int .i64 b) := by rw [h]
/-- An array as an argument. -/
def Arr.val (a : Arr) (o : Option Addr) (cap : Nat) : Value := .agg #[.int .i64 a.layout, .int .i64 a.offset, .int .i64 a.length, .string a.valid, .string a.ends, .string a.data, .slice o a.kids.length cap]
/-- An array in a box of its own. -/
structure Bx (w : World) (g : Nat) (a : Arr) (o : Option Addr) (cap : Nat) : Prop where
  blk : w.heap[g]? = some (.cells #[.int .i64 a.layout, .int .i64 a.offset, .int .i64 a.length, .string a.valid, .string a.ends, .string a.data, .slice o a.kids.length cap] 27)
theorem Bx.lt {w : World} {g : Nat} {a : Arr} {o : Option Addr} {cap : Nat} (h : Bx w g a o cap) : g < w.heap.size := by
  have := h.blk
  by_cases c : g < w.heap.size
  · exact c
  · rw [Array.getElem?_eq_none (by omega)] at this; cases this
theorem Bx.c0 {w : World} {g : Nat} {a : Arr} {o : Option Addr} {cap : Nat} (h : Bx w g a o cap) : w.cell? ⟨g, 0, none⟩ = some (.int .i64 a.layout) := by simp [World.cell?, h.blk]
theorem Bx.c1 {w : World} {g : Nat} {a : Arr} {o : Option Addr} {cap : Nat} (h : Bx w g a o cap) : w.cell? ⟨g, 1, none⟩ = some (.int .i64 a.offset) := by simp [World.cell?, h.blk]
theorem Bx.c2 {w : World} {g : Nat} {a : Arr} {o : Option Addr} {cap : Nat} (h : Bx w g a o cap) : w.cell? ⟨g, 2, none⟩ = some (.int .i64 a.length) := by simp [World.cell?, h.blk]
theorem Bx.c3 {w : World} {g : Nat} {a : Arr} {o : Option Addr} {cap : Nat} (h : Bx w g a o cap) : w.cell? ⟨g, 3, none⟩ = some (.string a.valid) := by simp [World.cell?, h.blk]
theorem Bx.c4 {w : World} {g : Nat} {a : Arr} {o : Option Addr} {cap : Nat} (h : Bx w g a o cap) : w.cell? ⟨g, 4, none⟩ = some (.string a.ends) := by simp [World.cell?, h.blk]
theorem Bx.c5 {w : World} {g : Nat} {a : Arr} {o : Option Addr} {cap : Nat} (h : Bx w g a o cap) : w.cell? ⟨g, 5, none⟩ = some (.string a.data) := by simp [World.cell?, h.blk]
theorem Bx.c6 {w : World} {g : Nat} {a : Arr} {o : Option Addr} {cap : Nat} (h : Bx w g a o cap) : w.cell? ⟨g, 6, none⟩ = some (.slice o a.kids.length cap) := by simp [World.cell?, h.blk]
theorem Bx.fz {w : World} {g : Nat} {a : Arr} {o : Option Addr} {cap : Nat} (h : Bx w g a o cap) (j : Nat) : w.frozen? ⟨g, j, none⟩ = false := by simp [World.frozen?, h.blk]
theorem Bx.later {w : World} {g : Nat} {a : Arr} {o : Option Addr} {cap : Nat} (h : Bx w g a o cap) {w' : World} (hb : Below w.heap.size w w') : Bx w' g a o cap := ⟨(hb.block g h.lt).trans h.blk⟩
theorem box7 (w : World) (a : Arr) (o : Option Addr) (cap : Nat) : ∃ w1, w.alloc (.cells #[.int .i64 a.layout, .int .i64 a.offset, .int .i64 a.length, .string a.valid, .string a.ends, .string a.data, .slice o a.kids.length cap] 27) = w1 ∧ Bx w1 w.heap.size a o cap ∧ Below w.heap.size w w1 ∧ w.heap.size < w1.heap.size :=
  ⟨_, rfl, ⟨heap_alloc_new _ _⟩, (Below.refl _ _).alloc (Nat.le_refl _) _, by simp⟩
/-- A node in a box. -/
theorem box3n (w : World) (n : Nd) : ∃ w1, w.alloc (.cells #[.int .i64 n.kind, .int .i64 n.par, .bool n.null] 40) = w1 ∧ w1.cell? ⟨w.heap.size, 0, none⟩ = some (.int .i64 n.kind) ∧ w1.cell? ⟨w.heap.size, 1, none⟩ = some (.int .i64 n.par) ∧ w1.cell? ⟨w.heap.size, 2, none⟩ = some (.bool n.null) ∧ Below w.heap.size w w1 :=
  ⟨_, rfl, by rw [World.cell?, heap_alloc_new]; rfl, by rw [World.cell?, heap_alloc_new]; rfl, by rw [World.cell?, heap_alloc_new]; rfl, (Below.refl _ _).alloc (Nat.le_refl _) _⟩

def hasRowsB (a : Arr) : Bool := decide (0 ≤ a.offset ∧ 0 ≤ a.length ∧ a.offset + a.length ≤ 64)
set_option maxHeartbeats 800000 in
theorem hasRows (a : Arr) (o : Option Addr) (cap : Nat) (ho : a.offset ≤ 9223372036854775807) (w : World) :
    Calls Tryz.prog 70 #[a.val o cap] w fun r w' => r = .returned (.bool (hasRowsB a)) ∧ Below w.heap.size w w' := by
  obtain ⟨w1, e1, x1, b1, z1⟩ := box7 w a o cap
  have d1 := x1.c1
  have d2 := x1.c2
  have HF : Hid (hasRowsB a = decide (0 ≤ a.offset ∧ 0 ≤ a.length ∧ a.offset + a.length ≤ 64)) := rfl
  have B1 : Hid (Below w.heap.size w w1) := b1
  clear x1 b1 z1
  unfold Arr.val
  generalize hasRowsB a = R at *
  generalize a.offset = p at *
  generalize a.length = q at *
  by_cases h0 : 0 ≤ p
  · by_cases h1 : 0 ≤ q
    · have hw : IntKind.i64.wrap (64 - p) = 64 - p := by rw [IntKind.wrap_i64]; omega
      by_cases h2 : q ≤ 64 - p
      · have HF2 : Hid (R = true) := by unfold Hid; rw [HF.out]; exact decide_eq_true ⟨h0, h1, by omega⟩
        go_enter Tryz.func70, Tryz.ntmps70
        go_wp2
        go_ret
        exact ⟨ret_bool HF2.out.symm, B1.out⟩
      · have HF2 : Hid (R = false) := by unfold Hid; rw [HF.out]; exact decide_eq_false (by omega)
        go_enter Tryz.func70, Tryz.ntmps70
        go_wp2
        go_ret
        exact ⟨ret_bool HF2.out.symm, B1.out⟩
    · have HF2 : Hid (R = false) := by unfold Hid; rw [HF.out]; exact decide_eq_false (by omega)
      go_enter Tryz.func70, Tryz.ntmps70
      go_wp2
      go_ret
      exact ⟨ret_bool HF2.out.symm, B1.out⟩
  · have HF2 : Hid (R = false) := by unfold Hid; rw [HF.out]; exact decide_eq_false (by omega)
    go_enter Tryz.func70, Tryz.ntmps70
    go_wp2
    go_ret
    exact ⟨ret_bool HF2.out.symm, B1.out⟩
theorem rows (a : Arr) (o : Option Addr) (cap : Nat) (h0 : 0 ≤ a.offset) (h1 : 0 ≤ a.length) (h2 : a.offset + a.length ≤ 64) (w : World) :
    Calls Tryz.prog 124 #[a.val o cap] w fun r w' => r = .returned (.int .i64 ((rowsOf a : Nat) : Int)) ∧ Below w.heap.size w w' := by
  obtain ⟨w1, e1, x1, b1, z1⟩ := box7 w a o cap
  have d1 := x1.c1
  have d2 := x1.c2
  have HF : Hid (((rowsOf a : Nat) : Int) = a.offset + a.length) := by unfold Hid rowsOf; omega
  have B1 : Hid (Below w.heap.size w w1) := b1
  clear x1 b1 z1
  unfold Arr.val
  generalize rowsOf a = R at *
  generalize a.offset = p at *
  generalize a.length = q at *
  go_enter Tryz.func124, Tryz.ntmps124
  go_wp2
  go_ret
  exact ⟨ret_int HF.out.symm, B1.out⟩
def isLeafB (k : Int) : Bool := decide (k ≠ 3 ∧ k ≠ 4)
theorem isLeaf (n : Nd) (w : World) :
    Calls Tryz.prog 74 #[.agg #[.int .i64 n.kind, .int .i64 n.par, .bool n.null]] w fun r w' => r = .returned (.bool (isLeafB n.kind)) ∧ Below w.heap.size w w' := by
  obtain ⟨w1, e1, c0, c1, c2, b1⟩ := box3n w n
  have HF : Hid (isLeafB n.kind = decide (n.kind ≠ 3 ∧ n.kind ≠ 4)) := rfl
  have B1 : Hid (Below w.heap.size w w1) := b1
  clear b1
  generalize isLeafB n.kind = R at *
  generalize n.kind = k at *
  by_cases h3 : k = 3
  · have HF2 : Hid (R = false) := by unfold Hid; rw [HF.out]; exact decide_eq_false (by omega)
    subst h3
    go_enter Tryz.func74, Tryz.ntmps74
    go_wp2
    go_ret
    exact ⟨ret_bool HF2.out.symm, B1.out⟩
  · have n3 : (k == 3) = false := by rw [beq_eq_false_iff_ne]; exact h3
    by_cases h4 : k = 4
    · have HF2 : Hid (R = false) := by unfold Hid; rw [HF.out]; exact decide_eq_false (by omega)
      subst h4
      go_enter Tryz.func74, Tryz.ntmps74
      go_wp2
      go_ret
      exact ⟨ret_bool HF2.out.symm, B1.out⟩
    · have n4 : (k == 4) = false := by rw [beq_eq_false_iff_ne]; exact h4
      have HF2 : Hid (R = true) := by unfold Hid; rw [HF.out]; exact decide_eq_true ⟨h3, h4⟩
      have m3 : (k != 3) = true := by rw [bne_iff_ne]; exact h3
      have m4 : (k != 4) = true := by rw [bne_iff_ne]; exact h4
      go_enter Tryz.func74, Tryz.ntmps74
      go_wp2
      go_ret
      exact ⟨ret_bool HF2.out.symm, B1.out⟩
end Go.Proofs.YtcpfhfdgfcilaaaGreatDoor.Arr
namespace Go.Proofs.YtcpfhfdgfcilaaaGreatDoor.Arr
open Go.ChangeShapes Go.WideShapes Go.ChangeAt Go.RowKit
open Tree Val

def shortS (s : ByteArray) : Bool := decide (s.size ≤ 4096)
theorem short1 (i : Int) (s : ByteArray) (w : World) :
    Calls Tryz.prog 122 #[.int .i64 i, .string s] w fun r w' => r = .returned (.bool (shortS s)) ∧ w' = w := by
  have HF : Hid (shortS s = decide (s.size ≤ 4096)) := rfl
  generalize shortS s = R at *
  by_cases h : s.size ≤ 4096
  · have HF2 : Hid (R = true) := by unfold Hid; rw [HF.out]; exact decide_eq_true h
    have h2 : (s.size : Int) ≤ 4096 := by omega
    clear h
    go_enter Tryz.func122, Tryz.ntmps122
    go_wp2
    go_ret
    exact ⟨ret_bool HF2.out.symm, rfl⟩
  · have HF2 : Hid (R = false) := by unfold Hid; rw [HF.out]; exact decide_eq_false h
    have h2 : ¬ (s.size : Int) ≤ 4096 := by omega
    clear h
    go_enter Tryz.func122, Tryz.ntmps122
    go_wp2
    go_ret
    exact ⟨ret_bool HF2.out.symm, rfl⟩
set_option maxRecDepth 20000 in
set_option maxHeartbeats 1600000 in
theorem oneT (g : Nat) (ss : List ByteArray) (hlen : ss.length ≤ 65536) (w : World) (hl : Hid (∀ j, j < ss.length → w.cell? ⟨g, j, none⟩ = some (.string (ss.getD j ByteArray.empty)))) :
    Calls Tryz.prog 90 #[.slice (some ⟨g, 0, none⟩) ss.length ss.length, .func (.func 122) #[] #[]] w fun r w' => r = .returned (.bool (allTo (fun i => shortS (ss.getD i ByteArray.empty)) ss.length)) ∧ w' = w := by
  obtain ⟨f, hf⟩ : ∃ f : Nat → Bool, ∀ i, f i = shortS (ss.getD i ByteArray.empty) := ⟨_, fun _ => rfl⟩
  have HF0 : Hid (∀ i, f i = shortS (ss.getD i ByteArray.empty)) := hf
  have e0 : (fun i => shortS (ss.getD i ByteArray.empty)) = f := funext fun i => (hf i).symm
  rw [e0]
  clear e0 hf
  go_enter Tryz.func90, Tryz.ntmps90
  go_wp2_with fail
  go_loop [9] (fun t => ∃ k : Nat, k ≤ ss.length ∧ t = .int .i64 (k : Int) ∧ (∀ j, j < k → f j = true)) (fun t => ss.length - (intOf t).toNat)
  case atStart => exact ⟨0, Nat.zero_le _, rfl, fun j hj => by omega⟩
  case round =>
    obtain ⟨k, hk, rfl, hall⟩ := hrel
    have HA : Hid (∀ j, j < k → f j = true) := hall
    clear hall
    by_cases hlt : k < ss.length
    · have hp := hl.out k hlt
      have HS : Hid (f k = shortS (ss.getD k ByteArray.empty)) := HF0.out k
      generalize ss.getD k ByteArray.empty = u at *
      go_wp2_with fail
      refine (short1 _ u w).mono ?_
      rintro e w' ⟨rfl, rfl⟩
      cases hfk : shortS u
      · have HF : Hid (allTo f ss.length = false) := allTo_no hlt (HS.out.trans hfk)
        clear hfk
        go_wp2
        go_ret
        exact ⟨ret_bool HF.out.symm, rfl⟩
      · have HF : Hid (f k = true) := HS.out.trans hfk
        clear hfk
        go_wp2
        go_round
        case rel =>
          refine ⟨k + 1, by omega, by go_num, fun j hj => ?_⟩
          by_cases e : j = k
          · rw [e]; exact HF.out
          · exact HA.out j (by omega)
        case measure => simp [intOf]; omega
    · obtain rfl : k = ss.length := by omega
      have HF : Hid (allTo f ss.length = true) := allTo_of HA.out
      go_wp2
      go_ret
      exact ⟨ret_bool HF.out.symm, rfl⟩
def shortsOf (a b c : ByteArray) : Bool := decide (a.size ≤ 4096) && decide (b.size ≤ 4096) && decide (c.size ≤ 4096)
theorem areShort (g : Nat) (a b c : ByteArray) (w : World) (h0 : w.cell? ⟨g, 0, none⟩ = some (.string a)) (h1 : w.cell? ⟨g, 1, none⟩ = some (.string b)) (h2 : w.cell? ⟨g, 2, none⟩ = some (.string c)) :
    Calls Tryz.prog 71 #[.slice (some ⟨g, 0, none⟩) 3 3] w fun r w' => r = .returned (.bool (shortsOf a b c)) ∧ w' = w := by
  have HC : Hid (Calls Tryz.prog 90 #[.slice (some ⟨g, 0, none⟩) 3 3, .func (.func 122) #[] #[]] w fun r w' => r = .returned (.bool (shortsOf a b c)) ∧ w' = w) := by
    have := oneT g [a, b, c] (by show 3 ≤ 65536; omega) w (fun j hj => by
      match j, hj with
      | 0, _ => exact h0
      | 1, _ => exact h1
      | 2, _ => exact h2
      | j + 3, h => exact absurd h (by simp))
    refine this.mono ?_
    rintro e w' ⟨rfl, rfl⟩
    refine ⟨ret_bool ?_, rfl⟩
    show allTo _ 3 = _
    unfold shortsOf
    simp [allTo, shortS]
  clear h0 h1 h2
  go_enter Tryz.func71, Tryz.ntmps71
  go_wp2_with fail
  refine HC.out.mono ?_
  rintro e w' ⟨rfl, rfl⟩
  go_wp2
  go_ret
  exact ⟨rfl, rfl⟩
def bitsB (s : ByteArray) (n : Nat) : Bool := decide ((n + 7) / 8 ≤ s.size)
theorem hasBits (s : ByteArray) (n : Nat) (hs : s.size ≤ 4096) (hn : n ≤ 64) (w : World) :
    Calls Tryz.prog 123 #[.string s, .int .i64 (n : Int)] w fun r w' => r = .returned (.bool (bitsB s n)) ∧ Below w.heap.size w w' := by
  have HF : Hid (bitsB s n = decide ((n + 7) / 8 ≤ s.size)) := rfl
  generalize bitsB s n = R at *
  by_cases h : n ≤ 8 * s.size
  · have HF2 : Hid (R = true) := by unfold Hid; rw [HF.out]; exact decide_eq_true (by omega)
    go_enter Tryz.func123, Tryz.ntmps123
    go_wp2_with fail
    refine (Bit.count_yes s 0 n w (by omega) (by omega) (by omega) (by omega)).mono ?_
    rintro e w' ⟨rfl, hb⟩
    go_wp2
    go_ret
    exact ⟨ret_bool HF2.out.symm, hb⟩
  · have HF2 : Hid (R = false) := by unfold Hid; rw [HF.out]; exact decide_eq_false (by omega)
    go_enter Tryz.func123, Tryz.ntmps123
    go_wp2_with fail
    refine (Bit.count_no s 0 n w (by omega) (by omega) (by omega) (by omega)).mono ?_
    rintro e w' ⟨rfl, rfl⟩
    go_wp2
    go_ret
    exact ⟨ret_bool HF2.out.symm, Below.refl _ _⟩
theorem there_bit {a : Arr} {r : Nat} (h : a.valid.size ≠ 0) : there a r = BitP.bit (bl a.valid) r := by
  unfold there
  rw [decide_eq_false h, Bool.false_or]
theorem empty_of {s : ByteArray} (h : s.size = 0) : s = ⟨#[]⟩ := by
  rcases s with ⟨d⟩
  have : d.size = 0 := h
  rw [Array.eq_empty_of_size_eq_zero this]
theorem ne_empty {s : ByteArray} (h : s.size ≠ 0) : s.toList.isEmpty = false := by
  cases hc : s.toList with
  | nil =>
    exfalso
    rw [ByteArray.toList_eq] at hc
    have : s.data.toList.length = 0 := by rw [hc]; rfl
    exact h (by simpa using this)
  | cons b l => rfl
end Go.Proofs.YtcpfhfdgfcilaaaGreatDoor.Arr
namespace Go.Proofs.YtcpfhfdgfcilaaaGreatDoor.Arr
open Go.ChangeShapes Go.WideShapes Go.ChangeAt Go.RowKit
open Tree Val

theorem get_yes (s : ByteArray) (i : Nat) (hs : s.size ≤ 4096) (h : has4 s i = true) (w : World) :
    Calls Tryz.prog 213 #[.string s, .int .i64 (4 * (i : Int)), .int .i64 4] w fun r w' => r = .returned (.tuple #[.int .i64 ((endAt s i : Nat) : Int), .int .i64 0]) ∧ w' = w := by
  have h := (has4_iff _ _).1 h
  have := Fix.get4 s (4 * i) w (by omega) h.1 h.2
  rw [show ((4 * i : Nat) : Int) = 4 * (i : Int) from by omega] at this
  exact this
theorem get_not (s : ByteArray) (i : Nat) (hs : s.size ≤ 4096) (h : has4 s i = false) (w : World) :
    Calls Tryz.prog 213 #[.string s, .int .i64 (4 * (i : Int)), .int .i64 4] w fun r w' => r = .returned (.tuple #[.int .i64 0, .int .i64 300]) ∧ w' = w := by
  by_cases h1 : 4 * i + 4 ≤ s.size
  · have h2 : 2147483647 < endAt s i := by
      have : ¬ (has4 s i = true) := by rw [h]; simp
      rw [has4_iff] at this
      omega
    have := Fix.get4_no s (4 * i) w (by omega) h1 h2
    rw [show ((4 * i : Nat) : Int) = 4 * (i : Int) from by omega] at this
    exact this
  · exact Fix.get_no s (4 * (i : Int)) 4 w (by omega) (by omega)
theorem number_yes (s : ByteArray) (i : Nat) (hs : s.size ≤ 4096) (h : has4 s i = true) (hi : i ≤ 4096) (w : World) :
    Calls Tryz.prog 179 #[.string s, .int .i64 (i : Int), .int .i64 4] w fun r w' => r = .returned (.tuple #[.int .i64 ((endAt s i : Nat) : Int), .bool true]) ∧ w' = w := by
  have HH : Hid (has4 s i = true) := h
  have hw : IntKind.i64.wrap (4 * (i : Int)) = 4 * (i : Int) := by rw [IntKind.wrap_i64]; omega
  clear h
  go_enter Tryz.func179, Tryz.ntmps179
  go_wp2_with fail
  refine (get_yes s i hs HH.out w).mono ?_
  rintro e w' ⟨rfl, rfl⟩
  go_wp2
  go_ret2
  exact ⟨rfl, rfl⟩
theorem number_not (s : ByteArray) (i : Nat) (hs : s.size ≤ 4096) (h : has4 s i = false) (hi : i ≤ 4096) (w : World) :
    Calls Tryz.prog 179 #[.string s, .int .i64 (i : Int), .int .i64 4] w fun r w' => r = .returned (.tuple #[.int .i64 0, .bool false]) ∧ w' = w := by
  have HH : Hid (has4 s i = false) := h
  have hw : IntKind.i64.wrap (4 * (i : Int)) = 4 * (i : Int) := by rw [IntKind.wrap_i64]; omega
  clear h
  go_enter Tryz.func179, Tryz.ntmps179
  go_wp2_with fail
  refine (get_not s i hs HH.out w).mono ?_
  rintro e w' ⟨rfl, rfl⟩
  go_wp2
  go_ret2
  exact ⟨rfl, rfl⟩
theorem short_yes (s : ByteArray) (i : Nat) (hs : s.size ≤ 4096) (h : has4 s i = true) (hi : i ≤ 4096) (w : World) :
    Calls Tryz.prog 138 #[.string s, .int .i64 (i : Int)] w fun r w' => r = .returned (.tuple #[.int .i64 ((endAt s i : Nat) : Int), .bool true]) ∧ w' = w := by
  have HH : Hid (has4 s i = true) := h
  clear h
  go_enter Tryz.func138, Tryz.ntmps138
  go_wp2_with fail
  refine (number_yes s i hs HH.out hi w).mono ?_
  rintro e w' ⟨rfl, rfl⟩
  go_wp2
  go_ret2
  exact ⟨rfl, rfl⟩
theorem short_not (s : ByteArray) (i : Nat) (hs : s.size ≤ 4096) (h : has4 s i = false) (hi : i ≤ 4096) (w : World) :
    Calls Tryz.prog 138 #[.string s, .int .i64 (i : Int)] w fun r w' => r = .returned (.tuple #[.int .i64 0, .bool false]) ∧ w' = w := by
  have HH : Hid (has4 s i = false) := h
  clear h
  go_enter Tryz.func138, Tryz.ntmps138
  go_wp2_with fail
  refine (number_not s i hs HH.out hi w).mono ?_
  rintro e w' ⟨rfl, rfl⟩
  go_wp2
  go_ret2
  exact ⟨rfl, rfl⟩
set_option maxHeartbeats 800000 in
theorem isThere (a : Arr) (r : Nat) (hs : a.valid.size ≤ 4096) (hr : a.valid.size = 0 ∨ r < 8 * a.valid.size) (w : World) :
    Calls Tryz.prog 77 #[.string a.valid, .int .i64 (r : Int)] w fun e w' => e = .returned (.bool (there a r)) ∧ w' = w := by
  by_cases h : a.valid.size = 0
  · have HF2 : Hid (there a r = true) := by unfold Hid there; rw [decide_eq_true h, Bool.true_or]
    have hv := empty_of h
    generalize there a r = R at *
    generalize a.valid = v at *
    subst hv
    clear h hs hr
    go_enter Tryz.func77, Tryz.ntmps77
    go_wp2
    go_ret
    exact ⟨ret_bool HF2.out.symm, rfl⟩
  · have HF2 : Hid (there a r = BitP.bit a.valid.data.toList r) := there_bit h
    have hr : r < 8 * a.valid.size := by omega
    have hv := ne_empty h
    generalize there a r = R at *
    generalize a.valid = v at *
    clear h
    have HG : Hid (∀ w, Calls Tryz.prog 137 #[.string v, .int .i64 (r : Int)] w fun e w' => e = .returned (.tuple #[.bool (BitP.bit v.data.toList r), .int .i64 0]) ∧ w' = w) := fun w => Bit.get_yes v r w (by omega) (by omega) (by omega)
    generalize BitP.bit v.data.toList r = b at *
    cases b
    · go_enter Tryz.func77, Tryz.ntmps77
      go_wp2_with fail
      refine (HG.out w).mono ?_
      rintro e w' ⟨rfl, rfl⟩
      go_wp2
      go_ret
      exact ⟨ret_bool (by rw [HF2.out]), rfl⟩
    · go_enter Tryz.func77, Tryz.ntmps77
      go_wp2_with fail
      refine (HG.out w).mono ?_
      rintro e w' ⟨rfl, rfl⟩
      go_wp2
      go_ret
      exact ⟨ret_bool (by rw [HF2.out]), rfl⟩
end Go.Proofs.YtcpfhfdgfcilaaaGreatDoor.Arr
namespace Go.Proofs.YtcpfhfdgfcilaaaGreatDoor.Arr
open Go.ChangeShapes Go.WideShapes Go.ChangeAt Go.RowKit
open Tree Val

def belowB (s : ByteArray) (r : Nat) (m : Int) : Bool := has4 s r && decide ((endAt s r : Int) < m)
set_option maxHeartbeats 800000 in
theorem isBelow (s : ByteArray) (r : Nat) (m : Int) (hs : s.size ≤ 4096) (hr : r ≤ 64) (w : World) :
    Calls Tryz.prog 133 #[.string s, .int .i64 (r : Int), .int .i64 m] w fun e w' => e = .returned (.bool (belowB s r m)) ∧ w' = w := by
  cases h : has4 s r
  · have HF2 : Hid (belowB s r m = false) := by unfold Hid belowB; rw [h]; rfl
    have HH : Hid (has4 s r = false) := h
    generalize belowB s r m = R at *
    clear h
    go_enter Tryz.func133, Tryz.ntmps133
    go_wp2_with fail
    refine (short_not s r hs HH.out (by omega) w).mono ?_
    rintro e w' ⟨rfl, rfl⟩
    go_wp2
    go_ret
    exact ⟨ret_bool HF2.out.symm, rfl⟩
  · have HF2 : Hid (belowB s r m = decide ((endAt s r : Int) < m)) := by unfold Hid belowB; rw [h]; rfl
    have HH : Hid (has4 s r = true) := h
    generalize belowB s r m = R at *
    clear h
    go_enter Tryz.func133, Tryz.ntmps133
    go_wp2_with fail
    refine (short_yes s r hs HH.out (by omega) w).mono ?_
    rintro e w' ⟨rfl, rfl⟩
    generalize endAt s r = x at *
    go_wp2
    go_ret
    exact ⟨ret_bool HF2.out.symm, rfl⟩
theorem make_ints (n : Nat) (h : n ≤ 4096) (w : World) :
    ∃ w1, (Instr.makeSlice 38 (.int .i64 (n : Int)) (.int .i64 (n : Int))).run Tryz.prog w = .ok (.slice (some ⟨w.heap.size, 0, none⟩) n n) w1 ∧ Row w1 w.heap.size n (fun _ => 0) ∧ Below w.heap.size w w1 ∧ w1.heap.size = w.heap.size + 1 := by
  obtain ⟨i, hi, hz0, hz1, hz2⟩ := info_parts info3
  have := run_make (P := Tryz.prog) w 38 3 i (.int .i64 0) Tryz.underlying38 hi hz0 .i64 .i64 n n (by omega) (Int.le_refl _) (by rw [hz2]; omega) (by omega)
  rw [hz1, Nat.mul_one, Int.toNat_natCast] at this
  exact ⟨_, this, Row.zeros w n, (Below.refl _ _).alloc (Nat.le_refl _) _, by simp⟩
theorem set_below {B : Nat} {w w' : World} (h : Below B w w') {g o : Nat} (hg : B ≤ g) (v : Value) : Below B w (w'.setCell ⟨g, o, none⟩ v) := h.setCell (by simpa using hg) _
/-- What shorts answers. -/
def ShortsA (w w' : World) (s : ByteArray) (n : Nat) (r : Ending) : Prop :=
  (all4 s n = true ∧ r = .returned (.tuple #[.slice (some ⟨w.heap.size, 0, none⟩) n n, .bool true]) ∧ Row w' w.heap.size n (endAt s)) ∨ (all4 s n = false ∧ r = .returned (.tuple #[.slice none 0 0, .bool false]))
set_option maxRecDepth 20000 in
set_option maxHeartbeats 1600000 in
theorem shorts (s : ByteArray) (n : Nat) (hs : s.size ≤ 4096) (hn : n ≤ 4096) (w : World) :
    Calls Tryz.prog 134 #[.string s, .int .i64 (n : Int)] w fun r w' => ShortsA w w' s n r ∧ Below w.heap.size w w' := by
  obtain ⟨w1, e1, r1, b1, z1⟩ := make_ints n hn w
  have R1 : Hid (Row w1 w.heap.size n (fun _ => 0)) := r1
  have B1 : Hid (Below w.heap.size w w1) := b1
  clear r1 b1 z1
  go_enter Tryz.func134, Tryz.ntmps134
  go_wp2_with fail
  go_loopw [14] (fun t wr => ∃ k : Nat, k ≤ n ∧ t = .int .i64 (k : Int) ∧ (∀ j, j < k → has4 s j = true) ∧ Row wr w.heap.size n (fun i => if i < k then endAt s i else 0) ∧ Below w.heap.size w wr) (fun t _ => n - (intOf t).toNat)
  case atStart => exact ⟨0, Nat.zero_le _, rfl, fun j hj => by omega, R1.out.as fun i _ => by rw [if_neg (by omega)], B1.out⟩
  case round =>
    obtain ⟨k, hk, rfl, hall, hrow, hbl⟩ := hrel
    have HA : Hid (∀ j, j < k → has4 s j = true) := hall
    have HR : Hid (Row wr w.heap.size n (fun i => if i < k then endAt s i else 0)) := hrow
    have HB : Hid (Below w.heap.size w wr) := hbl
    clear hall hrow hbl
    by_cases hlt : k < n
    · have hp := HR.out.cell k hlt
      have hq := HR.out.free k hlt
      cases hh : has4 s k
      · have HH : Hid (has4 s k = false) := hh
        clear hh
        go_wp2_with fail
        refine (short_not s k hs HH.out (by omega) wr).mono ?_
        rintro e w' ⟨rfl, rfl⟩
        go_wp2
        go_ret2
        refine ⟨.inr ⟨?_, rfl⟩, HB.out⟩
        cases c : all4 s n
        · rfl
        · have := (all4_iff _ _).1 c k hlt
          rw [HH.out] at this
          cases this
      · have HH : Hid (has4 s k = true) := hh
        clear hh
        go_wp2_with fail
        refine (short_yes s k hs HH.out (by omega) wr).mono ?_
        rintro e w' ⟨rfl, rfl⟩
        have HX : Hid (∃ x, x = endAt s k) := ⟨_, rfl⟩
        have HS : Hid (Row (w'.setCell ⟨w.heap.size, k, none⟩ (.int .i64 ((endAt s k : Nat) : Int))) w.heap.size n (fun i => if i < k + 1 then endAt s i else 0)) := (HR.out.set k hlt (endAt s k)).as fun i _ => by
          by_cases c : i = k
          · rw [if_pos c, if_pos (by omega), c]
          · rw [if_neg c]
            by_cases d : i < k
            · rw [if_pos d, if_pos (by omega)]
            · rw [if_neg d, if_neg (by omega)]
        go_wp2
        go_roundw
        case rel =>
          refine ⟨k + 1, by omega, by go_num, fun j hj => ?_, HS.out, set_below HB.out (Nat.le_refl _) _⟩
          by_cases e : j = k
          · rw [e]; exact HH.out
          · exact HA.out j (by omega)
        case measure => simp [intOf]; omega
    · obtain rfl : k = n := by omega
      go_wp2
      go_ret2
      refine ⟨.inl ⟨(all4_iff _ _).2 HA.out, rfl, HR.out.as fun i hi => by rw [if_pos hi]⟩, HB.out⟩
theorem isNaN (x : Int) (w : World) : Calls Tryz.prog 234 #[.int .i64 x] w fun e w' => e = .returned (.bool false) ∧ w' = w := by
  go_enter Tryz.func234, Tryz.ntmps234
  go_wp2
  go_ret
  exact ⟨by simp, rfl⟩
theorem less (x y : Int) (w : World) : Calls Tryz.prog 210 #[.int .i64 x, .int .i64 y] w fun e w' => e = .returned (.bool (decide (x < y))) ∧ w' = w := by
  go_enter Tryz.func210, Tryz.ntmps210
  go_wp2_with (go_at_call 234; refine (isNaN _ _).mono ?_; rintro e w' ⟨rfl, rfl⟩)
  go_ret
  exact ⟨by simp, rfl⟩
set_option maxRecDepth 20000 in
set_option maxHeartbeats 1600000 in
theorem isSorted (g n cap : Nat) (s : ByteArray) (hn : n ≤ 4096) (w : World) (hr : Hid (Row w g (n + 1) (endAt s))) :
    Calls Tryz.prog 174 #[.slice (some ⟨g, 0, none⟩) (n + 1) cap] w fun r w' => r = .returned (.bool (sortedE s n)) ∧ Below w.heap.size w w' := by
  have HF : Hid (sortedE s n = true ↔ ∀ i, i < n → endAt s i ≤ endAt s (i + 1)) := sorted_iff s n
  generalize sortedE s n = R at *
  go_enter Tryz.func174, Tryz.ntmps174
  go_wp2_with fail
  go_loopw [3] (fun t wr => ∃ k : Nat, k ≤ n ∧ t = .int .i64 (k : Int) ∧ (∀ j, k ≤ j → j < n → endAt s j ≤ endAt s (j + 1)) ∧ Below w.heap.size w wr) (fun t _ => (intOf t).toNat)
  case atStart => exact ⟨n, Nat.le_refl _, by go_num, fun j hj hj2 => by omega, Below.refl _ _⟩
  case round =>
    obtain ⟨k, hk, rfl, hall, hbl⟩ := hrel
    have HA : Hid (∀ j, k ≤ j → j < n → endAt s j ≤ endAt s (j + 1)) := hall
    have HB : Hid (Below w.heap.size w wr) := hbl
    clear hall
    cases k with
    | zero =>
      have HF2 : Hid (R = true) := HF.out.2 fun i hi => HA.out i (Nat.zero_le _) hi
      go_wp2
      go_ret
      exact ⟨ret_bool HF2.out.symm, HB.out⟩
    | succ k =>
      have c1 := cell_later hbl (hr.out.cell (k + 1) (by omega))
      have c2 := cell_later hbl (hr.out.cell k (by omega))
      clear hbl
      have k1 : ((k + 1 : Nat) : Int) - 1 = (k : Int) := by omega
      have k2 : ((k + 1 : Nat) : Int) = (k : Int) + 1 := by omega
      go_wp2_with fail
      go_quiet (first | (go_at_call 210; exact Calls.quiet_of_same (less _ _ _)))
      have hdr := drewN_below wr nq
      have HB2 : Hid (Below w.heap.size w (wr.drewN nq)) := bel2 HB.out hdr
      generalize wr.drewN nq = wd at *
      by_cases hc : endAt s (k + 1) < endAt s k
      · have HF2 : Hid (R = false) := by
          unfold Hid
          cases c : R
          · rfl
          · have := HF.out.1 c k (by omega)
            omega
        have hc2 : (endAt s (k + 1) : Int) < (endAt s k : Int) := by omega
        have hc3 : decide (endAt s (k + 1) < endAt s k) = true := decide_eq_true hc
        clear hdr c1 c2
        generalize endAt s (k + 1) = y at *
        generalize endAt s k = x at *
        go_wp2
        go_ret
        exact ⟨ret_bool HF2.out.symm, HB2.out⟩
      · have hc2 : ¬ (endAt s (k + 1) : Int) < (endAt s k : Int) := by omega
        have hc3 : decide (endAt s (k + 1) < endAt s k) = false := decide_eq_false hc
        have HE : Hid (∀ i, i = k → endAt s i ≤ endAt s (i + 1)) := fun i e => by rw [e]; omega
        clear hdr c1 c2
        generalize endAt s (k + 1) = y at *
        generalize endAt s k = x at *
        go_wp2
        go_roundw
        case rel =>
          refine ⟨k, by omega, by go_num, fun j h1 h2 => ?_, HB2.out⟩
          by_cases e : j = k
          · exact HE.out j e
          · exact HA.out j (by omega) h2
        case measure => simp [intOf]
/-- Ints lie in a block, from a place on. -/
def IntsAt (w : World) (g off n : Nat) (z : Nat → Int) : Prop := ∀ j, j < n → w.cell? ⟨g, off + j, none⟩ = some (.int .i64 (z j))
theorem IntsAt.later {w w' : World} {g off n : Nat} {z : Nat → Int} (h : IntsAt w g off n z) (hb : Below w.heap.size w w') : IntsAt w' g off n z := fun j hj => cell_later hb (h j hj)
set_option maxRecDepth 20000 in
set_option maxHeartbeats 1600000 in
theorem oneI (F : Nat) (hF : F = 173 ∨ F = 211) (b5 b4 : Nat) (f : Nat → Bool) (g off cap n : Nat) (z : Nat → Int) (hn : n ≤ 65536) (w : World) (hl : Hid (IntsAt w g off n z))
    (hstep : Hid (∀ (k : Nat) (v : World), k < n → Below w.heap.size w v → Calls Tryz.prog F #[.int .i64 (k : Int), .int .i64 (z k), .pointer (some ⟨b5, 0, none⟩), .pointer (some ⟨b4, 0, none⟩)] v fun r v' => r = .returned (.bool (f k)) ∧ Below v.heap.size v v')) :
    Calls Tryz.prog 172 #[.slice (some ⟨g, off, none⟩) n cap, .func (.func F) #[] #[.pointer (some ⟨b5, 0, none⟩), .pointer (some ⟨b4, 0, none⟩)]] w fun r w' => r = .returned (.bool (allTo f n)) ∧ Below w.heap.size w w' := by
  rcases hF with rfl | rfl
  all_goals
    go_enter Tryz.func172, Tryz.ntmps172
    go_wp2_with fail
    go_loopw [9] (fun t wr => ∃ k : Nat, k ≤ n ∧ t = .int .i64 (k : Int) ∧ (∀ j, j < k → f j = true) ∧ Below w.heap.size w wr) (fun t _ => n - (intOf t).toNat)
    case atStart => exact ⟨0, Nat.zero_le _, rfl, fun j hj => by omega, Below.refl _ _⟩
    case round =>
      obtain ⟨k, hk, rfl, hall, hbl⟩ := hrel
      have HA : Hid (∀ j, j < k → f j = true) := hall
      clear hall
      by_cases hlt : k < n
      · have hp := cell_later hbl (hl.out k hlt)
        have HS : Hid (Calls Tryz.prog _ #[.int .i64 (k : Int), .int .i64 (z k), .pointer (some ⟨b5, 0, none⟩), .pointer (some ⟨b4, 0, none⟩)] wr fun r v' => r = .returned (.bool (f k)) ∧ Below wr.heap.size wr v') := hstep.out k wr hlt hbl
        generalize z k = u at *
        clear hstep
        go_wp2_with fail
        refine (HS.out).mono ?_
        rintro e w' ⟨rfl, hb'⟩
        have HB' : Hid (Below w.heap.size w w') := hbl.trans (hb'.mono hbl.size)
        clear hb' hp
        cases hfk : f k
        · have HF : Hid (allTo f n = false) := allTo_no hlt hfk
          clear hfk
          go_wp2
          go_ret
          exact ⟨ret_bool HF.out.symm, HB'.out⟩
        · have HF : Hid (f k = true) := hfk
          clear hfk
          go_wp2
          go_roundw
          case rel =>
            refine ⟨k + 1, by omega, by go_num, fun j hj => ?_, HB'.out⟩
            by_cases e : j = k
            · rw [e]; exact HF.out
            · exact HA.out j (by omega)
          case measure => simp [intOf]; omega
      · obtain rfl : k = n := by omega
        have HF : Hid (allTo f k = true) := allTo_of HA.out
        go_wp2
        go_ret
        exact ⟨ret_bool HF.out.symm, hbl⟩
/-- Two numbers beside each other. -/
def besideF (H : Nat) (x y : Int) : Bool := if H = 175 then decide (y - x ≤ 16) else decide (x < y)
theorem near1 (x y : Int) (h : IntKind.i64.wrap (y - x) = y - x) (w : World) : Calls Tryz.prog 175 #[.int .i64 x, .int .i64 y] w fun e w' => e = .returned (.bool (besideF 175 x y)) ∧ w' = w := by
  have HF : Hid (besideF 175 x y = decide (y - x ≤ 16)) := rfl
  generalize besideF 175 x y = R at *
  by_cases c : y - x ≤ 16
  · have HF2 : Hid (R = true) := HF.out.trans (decide_eq_true c)
    go_enter Tryz.func175, Tryz.ntmps175
    go_wp2
    go_ret
    exact ⟨ret_bool HF2.out.symm, rfl⟩
  · have HF2 : Hid (R = false) := HF.out.trans (decide_eq_false c)
    go_enter Tryz.func175, Tryz.ntmps175
    go_wp2
    go_ret
    exact ⟨ret_bool HF2.out.symm, rfl⟩
theorem rise1 (x y : Int) (w : World) : Calls Tryz.prog 136 #[.int .i64 x, .int .i64 y] w fun e w' => e = .returned (.bool (besideF 136 x y)) ∧ w' = w := by
  have HF : Hid (besideF 136 x y = decide (x < y)) := rfl
  generalize besideF 136 x y = R at *
  by_cases c : x < y
  · have HF2 : Hid (R = true) := HF.out.trans (decide_eq_true c)
    go_enter Tryz.func136, Tryz.ntmps136
    go_wp2
    go_ret
    exact ⟨ret_bool HF2.out.symm, rfl⟩
  · have HF2 : Hid (R = false) := HF.out.trans (decide_eq_false c)
    go_enter Tryz.func136, Tryz.ntmps136
    go_wp2
    go_ret
    exact ⟨ret_bool HF2.out.symm, rfl⟩
end Go.Proofs.YtcpfhfdgfcilaaaGreatDoor.Arr
namespace Go.Proofs.YtcpfhfdgfcilaaaGreatDoor.Tree
open Go.ChangeShapes Go.WideShapes Go.ChangeAt Go.RowKit

/-- A world in which what w1 has still stands. -/
structure BW (w1 : World) where
  w : World
  ok : Below w1.heap.size w1 w
theorem BW.some (w1 : World) : Nonempty (BW w1) := ⟨⟨w1, Below.refl _ _⟩⟩
theorem region_in {P : Program} {C : World → Prop} {id : Nat} {Q : Exit → Act → World → Prop} {a : Act} {w : World} {l : List Oper} (hm : P.follows .mixedOrders = true) (hB : Region.lexB .any l.toArray = true) (hC : C w.drew)
    (h : wpQuiet P l.toArray C (fun a' => ∀ w', C w' → Q .normal a' w') l a) : (Code.region id l.toArray true).wp P Q a w :=
  wp_region_quiet (C := C) hm hB hC (by simpa using h)
end Go.Proofs.YtcpfhfdgfcilaaaGreatDoor.Tree
namespace Go.Proofs.YtcpfhfdgfcilaaaGreatDoor.Arr
open Go.ChangeShapes Go.WideShapes Go.ChangeAt Go.RowKit
open Tree Val

/-- What the two functions that ask of numbers beside each other want of these. -/
def Near (H : Nat) (x y : Int) : Prop := IntKind.i64.wrap (y - x) = y - x ∨ H = 136
theorem askII (H : Nat) (hH : H = 175 ∨ H = 136) (x y : Int) (h : Near H x y) (w : World) : Calls Tryz.prog H #[.int .i64 x, .int .i64 y] w fun e w' => e = .returned (.bool (besideF H x y)) ∧ w' = w := by
  rcases hH with rfl | rfl
  · rcases h with h | h
    · exact near1 x y h w
    · cases h
  · exact rise1 x y w
set_option maxRecDepth 20000 in
set_option maxHeartbeats 1600000 in
theorem stepII (H : Nat) (hH : H = 175 ∨ H = 136) (b5 b4 k : Nat) (x : Int) (g2 off2 cap2 n : Nat) (z2 : Nat → Int) (hk : k < n) (hq : Hid (Near H x (z2 k))) (w : World) (h5 : w.cell? ⟨b5, 0, none⟩ = some (.func (.func H) #[] #[])) (h4 : w.cell? ⟨b4, 0, none⟩ = some (.slice (some ⟨g2, off2, none⟩) n cap2)) (hl : Hid (IntsAt w g2 off2 n z2)) :
    Calls Tryz.prog 211 #[.int .i64 (k : Int), .int .i64 x, .pointer (some ⟨b5, 0, none⟩), .pointer (some ⟨b4, 0, none⟩)] w fun r w' => r = .returned (.bool (besideF H x (z2 k))) ∧ Below w.heap.size w w' := by
  have c2 := hl.out k hk
  have HC : Hid (∀ v, Calls Tryz.prog H #[.int .i64 x, .int .i64 (z2 k)] v fun e w' => e = .returned (.bool (besideF H x (z2 k))) ∧ w' = v) := fun v => askII H hH x (z2 k) hq.out v
  clear hq
  generalize besideF H x (z2 k) = R at *
  generalize z2 k = y at *
  have j0 : (0 : Int) ≤ (k : Int) := Int.natCast_nonneg _
  have j1 : (k : Int) < (n : Int) := by omega
  rcases hH with rfl | rfl
  · go_enter Tryz.func211, Tryz.ntmps211
    go_wp2_with fail
    go_quiet (first | (go_at_call 175; exact Calls.quiet_of_same (HC.out _)))
    go_wp2
    go_ret
    exact ⟨rfl, drewN_below _ _⟩
  · go_enter Tryz.func211, Tryz.ntmps211
    go_wp2_with fail
    go_quiet (first | (go_at_call 136; exact Calls.quiet_of_same (HC.out _)))
    go_wp2
    go_ret
    exact ⟨rfl, drewN_below _ _⟩
set_option maxRecDepth 20000 in
set_option maxHeartbeats 1600000 in
theorem pairII (H : Nat) (hH : H = 175 ∨ H = 136) (g off cap g2 off2 cap2 n : Nat) (z z2 : Nat → Int) (hn : n ≤ 65536) (hq : Hid (∀ k, k < n → Near H (z k) (z2 k))) (w : World) (hl : Hid (IntsAt w g off n z)) (hl2 : Hid (IntsAt w g2 off2 n z2)) :
    Calls Tryz.prog 176 #[.slice (some ⟨g, off, none⟩) n cap, .slice (some ⟨g2, off2, none⟩) n cap2, .func (.func H) #[] #[]] w fun r w' => r = .returned (.bool (allTo (fun i => besideF H (z i) (z2 i)) n)) ∧ Below w.heap.size w w' := by
  obtain ⟨w1, e1, s1, c1, b1⟩ := boxed w (.slice (some ⟨g2, off2, none⟩) n cap2) 38
  obtain ⟨w2, e2, s2, c2, b2⟩ := boxed w1 (.func (.func H) #[] #[]) 55
  have c3 := cell_later b2 c1
  have B2 : Hid (Below w.heap.size w w2) := bel2 b1 b2
  have HC2 : Hid (w2.cell? ⟨w1.heap.size, 0, none⟩ = some (.func (.func H) #[] #[])) := c2
  have HC3 : Hid (w2.cell? ⟨w.heap.size, 0, none⟩ = some (.slice (some ⟨g2, off2, none⟩) n cap2)) := c3
  obtain ⟨f, hf⟩ : ∃ f : Nat → Bool, ∀ i, f i = besideF H (z i) (z2 i) := ⟨_, fun _ => rfl⟩
  have HF0 : Hid (∀ i, f i = besideF H (z i) (z2 i)) := hf
  have e0 : (fun i => besideF H (z i) (z2 i)) = f := funext fun i => (hf i).symm
  rw [e0]
  clear e0 hf s1 s2 c1 b1 b2
  have HCC : Hid (Calls Tryz.prog 172 #[.slice (some ⟨g, off, none⟩) n cap, .func (.func 211) #[] #[.pointer (some ⟨w1.heap.size, 0, none⟩), .pointer (some ⟨w.heap.size, 0, none⟩)]] w2 fun r w' => r = .returned (.bool (allTo f n)) ∧ Below w2.heap.size w2 w') := by
    refine oneI 211 (.inr rfl) w1.heap.size w.heap.size f g off cap n z hn w2 (hl.out.later B2.out) (fun k v hk hv => ?_)
    have := stepII H hH w1.heap.size w.heap.size k (z k) g2 off2 cap2 n z2 hk (hq.out k hk) v (cell_later hv HC2.out) (cell_later hv HC3.out) (hl2.out.later (bel2 B2.out hv))
    rw [HF0.out k]
    exact this
  rcases hH with rfl | rfl
  all_goals
    go_enter Tryz.func176, Tryz.ntmps176
    go_wp2_with fail
    refine HCC.out.mono ?_
    rintro e w3 ⟨rfl, b3⟩
    go_wp2
    go_ret
    exact ⟨rfl, bel2 B2.out b3⟩
set_option maxRecDepth 20000 in
set_option maxHeartbeats 1600000 in
theorem beside (H : Nat) (hH : H = 175 ∨ H = 136) (g off cap n : Nat) (z : Nat → Int) (hn : n ≤ 65535) (hcap : n + 1 ≤ cap) (hc2 : cap ≤ 140737488355328) (hq : Hid (∀ k, k < n → Near H (z k) (z (k + 1)))) (w : World) (hl : Hid (IntsAt w g off (n + 1) z)) :
    Calls Tryz.prog 135 #[.slice (some ⟨g, off, none⟩) (n + 1) cap, .func (.func H) #[] #[]] w fun r w' => r = .returned (.bool (allTo (fun i => besideF H (z i) (z (i + 1))) n)) ∧ Below w.heap.size w w' := by
  have HCC : Hid (∀ v c1 off2 c2, Below w.heap.size w v → (n = 0 ∨ off2 = off + 1) → Calls Tryz.prog 176 #[.slice (some ⟨g, off, none⟩) n c1, .slice (some ⟨g, off2, none⟩) n c2, .func (.func H) #[] #[]] v fun r w' => r = .returned (.bool (allTo (fun i => besideF H (z i) (z (i + 1))) n)) ∧ Below v.heap.size v w') := fun v c1 off2 c2 hv ho =>
    pairII H hH g off c1 g off2 c2 n z (fun i => z (i + 1)) (by omega) hq.out v (fun j hj => cell_later hv (hl.out j (by omega))) (fun j hj => by
      have := cell_later hv (hl.out (j + 1) (by omega))
      rcases ho with ho | ho
      · omega
      · rw [show off + (j + 1) = off2 + j from by omega] at this; exact this)
  generalize allTo (fun i => besideF H (z i) (z (i + 1))) n = R at *
  have hne := BW.some w
  clear hq hl
  by_cases h1 : cap = 1
  · obtain rfl : n = 0 := by omega
    subst h1
    rcases hH with rfl | rfl
    all_goals
      go_enter Tryz.func135, Tryz.ntmps135
      go_wp2_with fail
      refine region_in (C := fun w' => ∃ s : BW w, w' = s.w) (by kernel_rfl) (by kernel_rfl) ⟨⟨w.drew, (Below.refl _ _).drew⟩, rfl⟩ ?_
      repeat (go_big_quiet_step (first
        | (go_at_call 176; rename_i s; refine (HCC.out s.w _ off _ s.ok (.inl trivial)).mono ?_; rintro e wx ⟨rfl, hbx⟩; exact ⟨rfl, ⟨wx, bel2 s.ok hbx⟩, rfl⟩)))
      refine wpQuiet_nil ?_
      intro _ hw'
      obtain ⟨s, hw''⟩ := hw'
      subst hw''
      have HE : Hid (Below w.heap.size w s.w) := s.ok
      clear hne
      go_wp2
      go_ret
      exact ⟨rfl, HE.out⟩
  · have j0 : (0 : Int) ≤ (n : Int) := Int.natCast_nonneg _
    have j1 : (n : Int) ≤ (cap : Int) := by omega
    have j2 : (1 : Int) ≤ (n : Int) + 1 := by omega
    have j3 : n ≤ cap := by omega
    have hw : IntKind.i64.wrap (n : Int) = (n : Int) := by rw [IntKind.wrap_i64]; omega
    rcases hH with rfl | rfl
    all_goals
      go_enter Tryz.func135, Tryz.ntmps135
      go_wp2_with fail
      refine region_in (C := fun w' => ∃ s : BW w, w' = s.w) (by kernel_rfl) (by kernel_rfl) ⟨⟨w.drew, (Below.refl _ _).drew⟩, rfl⟩ ?_
      repeat (go_big_quiet_step (first
        | (go_at_call 176; rename_i s; refine (HCC.out s.w _ (off + 1) _ s.ok (.inr rfl)).mono ?_; rintro e wx ⟨rfl, hbx⟩; exact ⟨rfl, ⟨wx, bel2 s.ok hbx⟩, rfl⟩)))
      refine wpQuiet_nil ?_
      intro _ hw'
      obtain ⟨s, hw''⟩ := hw'
      subst hw''
      have HE : Hid (Below w.heap.size w s.w) := s.ok
      clear hne
      go_wp2
      go_ret
      exact ⟨rfl, HE.out⟩
end Go.Proofs.YtcpfhfdgfcilaaaGreatDoor.Arr
