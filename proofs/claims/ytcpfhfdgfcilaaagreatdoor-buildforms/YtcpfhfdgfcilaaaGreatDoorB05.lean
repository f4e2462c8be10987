/-
  Several texts in one: Numbers in bytes: contracts (carried). · The small functions of package array, and an array in a box: contracts. · Short texts, bits, numbers of an array: areShort, hasBits, mayLack, isThere, isBelow, shorts: contracts. · Package cells: number, Short, IsThere: contracts. · Rows of numbers: shorts, IsSorted, every.One and every.Pair over ints, beside: contracts. · A region that draws its order, in a class of worlds: those in which all that was there still stands. · Numbers beside each other, ends of an array: every.Pair over ints, beside, hasEnds, areNear, mayLack: contracts.
-/
import Derived.Test.YtcpfhfdgfcilaaaGreatDoorB04
import Derived.Test.YtcpfhfdgfcilaaaGreatDoorProg
import Derived.WalkKit
import Derived.ProofKit
import Derived.OpenShut
import Derived.Below
import Derived.RegionTactic
import Derived.ChangeAlike
import Derived.Laws.IdiomStrings
import Derived.OwnWalk
import Derived.Test.YtcpfhfdgfcilaaaGreatDoorB01
import Derived.Test.YtcpfhfdgfcilaaaGreatDoorB02
import Derived.Deep.RegionWith
import Derived.Deep.QuietTactic
import Derived.BigQuiet
import Derived.WalkSmall
namespace Go.Proofs.YtcpfhfdgfcilaaaGreatDoor.Fix
open Go.ChangeShapes Go.WideShapes Go.ChangeAt Go.RowKit

theorem bel {a b c : World} (h : Below a.heap.size a b) (k : Below b.heap.size b c) : Below a.heap.size a c := h.trans (k.mono h.size)
theorem ret_bool {a b : Bool} (h : a = b) : Ending.returned (.bool a) = .returned (.bool b) := by rw [h]
theorem ret2_str {a b : List UInt8} {y : Value} (h : a = b) : Ending.returned (.tuple #[.string ⟨a.toArray⟩, y]) = .returned (.tuple #[.string ⟨b.toArray⟩, y]) := by rw [h]

theorem num (e : Int) (w : World) :
    Calls Tryz.prog 18 #[.int .i64 e] w fun r w' => r = .returned (.int .i64 e) ∧ w' = w := by
  go_enter Tryz.func18, Tryz.ntmps18
  go_wp2
  go_ret
  exact ⟨rfl, rfl⟩

/-- May a number be laid down in so many bytes? -/
def sizeB (n : Int) : Bool := decide (n = 4 ∨ n = 8)
theorem isSize (x : Int) (w : World) :
    Calls Tryz.prog 222 #[.int .i64 x] w fun r w' => r = .returned (.bool (sizeB x)) ∧ w' = w := by
  by_cases h : x = 4
  · subst h
    rw [show sizeB 4 = true from by decide]
    go_enter Tryz.func222, Tryz.ntmps222
    go_wp2
    go_ret
    exact ⟨rfl, rfl⟩
  · by_cases h8 : x = 8
    · subst h8
      rw [show sizeB 8 = true from by decide]
      go_enter Tryz.func222, Tryz.ntmps222
      go_wp2
      go_ret
      exact ⟨rfl, rfl⟩
    · rw [show sizeB x = false from decide_eq_false (by omega)]
      go_enter Tryz.func222, Tryz.ntmps222
      go_wp2
      go_ret
      exact ⟨ret_bool (by simp [h, h8]), rfl⟩
/-- Is it from 0 to Most? -/
def shortB (x : Int) : Bool := decide (0 ≤ x ∧ x ≤ 2147483647)
/-- So many bytes lie at the head of block g, and may be written. -/
structure Bytes (w : World) (g : Nat) (l : List UInt8) : Prop where
  cell : ∀ i, i < l.length → w.cell? ⟨g, i, none⟩ = some (.int .u8 (((l.getD i 0).toNat : Nat) : Int))
  free : ∀ i, i < l.length → w.frozen? ⟨g, i, none⟩ = false
theorem Bytes.set {w : World} {g : Nat} {l : List UInt8} (h : Bytes w g l) (j : Nat) (hj : j < l.length) (v : UInt8) : Bytes (w.setCell ⟨g, j, none⟩ (.int .u8 ((v.toNat : Nat) : Int))) g (l.set j v) := by
  constructor
  · intro i hi
    rw [List.length_set] at hi
    by_cases e : i = j
    · subst e
      rw [World.cell?_setCell_same _ _ _ (h.cell i hi), List.getD_eq_getElem?_getD, List.getElem?_set_self hi]
      rfl
    · rw [World.cell?_setCell_other _ _ _ _ (by intro c; exact e (by injection c with _ c2; exact c2.symm)), h.cell i hi, List.getD_eq_getElem?_getD, List.getD_eq_getElem?_getD, List.getElem?_set_ne (fun c => e c.symm)]
  · intro i hi
    rw [List.length_set] at hi
    rw [World.frozen?_setCell]
    exact h.free i hi
theorem Bytes.back {w : World} {g L c : Nat} {l : List UInt8} (h : Bytes w g l) (hl : L = l.length) : (convert 42 9 (.slice (some ⟨g, 0, none⟩) L c)).run Tryz.prog w = .ok (.string ⟨l.toArray⟩) w := by
  rw [hl]
  refine run_convert_bytes_back w 42 9 5 ⟨g, 0, none⟩ c l Tryz.underlying42 Tryz.underlying5 Tryz.underlying9 ?_
  intro j hj
  rw [Addr.add_lit, Nat.zero_add, h.cell j hj, List.getD_eq_getElem?_getD, List.getElem?_eq_getElem hj]
  rfl
theorem info5 : (Tryz.prog.info? 5).map (fun i => (i.zero, i.size, i.bytes)) = some (some (.int .u8 0), 1, 1) := by kernel_rfl
/-- So many zero bytes, as cells. -/
def zeros (n : Nat) : Array Value := madeCells (Value.cells (.int .u8 0)) n
theorem zeros_at (n i : Nat) (h : i < n) : (zeros n)[i]? = some (.int .u8 0) := by
  unfold zeros
  rw [← Array.getElem?_toList, show (Value.cells (.int .u8 0)) = #[.int .u8 0] from rfl, toList_madeCells_one, List.getElem?_replicate, if_pos h]
theorem Bytes.zeros (w : World) (n : Nat) : Bytes (w.alloc (.cells (zeros n) 5)) w.heap.size (List.replicate n 0) := by
  constructor
  · intro i hi
    rw [List.length_replicate] at hi
    rw [World.cell?_alloc_mark, zeros_at n i hi, List.getD_eq_getElem?_getD, List.getElem?_replicate, if_pos hi]
    rfl
  · intro i _
    rw [World.frozen?_alloc_mark]
    simp
theorem make_bytes (n : Nat) (h : n ≤ 140737488351232) (w : World) :
    ∃ w1, (Instr.makeSlice 42 (.int .i64 (n : Int)) (.int .i64 (n : Int))).run Tryz.prog w = .ok (.slice (some ⟨w.heap.size, 0, none⟩) n n) w1 ∧ Bytes w1 w.heap.size (List.replicate n 0) ∧ Below w.heap.size w w1 := by
  obtain ⟨i, hi, hz0, hz1, hz2⟩ := info_parts info5
  have := run_make (P := Tryz.prog) w 42 5 i (.int .u8 0) Tryz.underlying42 hi hz0 .i64 .i64 n n (by omega) (Int.le_refl _) (by rw [hz2]; omega) (by omega)
  rw [hz1, Nat.mul_one, Int.toNat_natCast] at this
  exact ⟨_, this, Bytes.zeros w n, (Below.refl _ _).alloc (Nat.le_refl _) _⟩

theorem getD_at (s : ByteArray) (j : Nat) (h : j < s.size) : s.data.toList.getD j 0 = s[j] := by
  have h' : j < s.data.toList.length := by simpa using h
  rw [List.getD_eq_getElem?_getD, List.getElem?_eq_getElem h']
  rfl

end Go.Proofs.YtcpfhfdgfcilaaaGreatDoor.Fix
namespace Go.Proofs.YtcpfhfdgfcilaaaGreatDoor.Fix
open Go.ChangeShapes Go.WideShapes Go.ChangeAt Go.RowKit

/-- Bytes, as cells. -/
def cells (l : List UInt8) : List Value := l.map fun b => .int .u8 ((b.toNat : Nat) : Int)
theorem refUp (x a b : Int) (w : World) :
    Calls Tryz.prog 150 #[.int .i64 x, .int .i64 a, .int .i64 b] w fun r w' => r = .returned (.bool (decide (a ≤ x ∧ x ≤ b))) ∧ w' = w := by
  by_cases h : a ≤ x
  · go_enter Tryz.func150, Tryz.ntmps150
    go_wp2
    go_ret
    exact ⟨ret_bool (by simp [h]), rfl⟩
  · go_enter Tryz.func150, Tryz.ntmps150
    go_wp2
    go_ret
    exact ⟨ret_bool (by simp; omega), rfl⟩
theorem refIn (x : Int) (w : World) :
    Calls Tryz.prog 87 #[.int .i64 x] w fun r w' => r = .returned (.bool (shortB x)) ∧ w' = w := by
  go_enter Tryz.func87, Tryz.ntmps87
  go_wp2_with fail
  refine (refUp _ _ _ _).mono ?_
  rintro e w' ⟨rfl, rfl⟩
  rw [show decide (0 ≤ x ∧ x ≤ 2147483647) = shortB x from rfl]
  go_wp2
  go_ret
  exact ⟨rfl, rfl⟩
end Go.Proofs.YtcpfhfdgfcilaaaGreatDoor.Fix
namespace Go.Proofs.YtcpfhfdgfcilaaaGreatDoor.Fix
open Go.ChangeShapes Go.WideShapes Go.ChangeAt Go.RowKit

theorem ret_str {a b : List UInt8} (h : a = b) : Ending.returned (.string ⟨a.toArray⟩) = .returned (.string ⟨b.toArray⟩) := by rw [h]
set_option maxHeartbeats 400000 in
theorem refNum (s : ByteArray) (w : World) (hs : s.size ≤ 8) :
    Calls Tryz.prog 86 #[.string s] w fun r w' => r = .returned (.int .i64 (wrap64 ((Plain.val s.data.toList 0 s.size : Nat) : Int))) ∧ w' = w := by
  go_enter Tryz.func86, Tryz.ntmps86
  go_wp2_with fail
  go_loop [3, 4] (fun t i => ∃ k : Nat, k ≤ s.size ∧ i = .int .i64 ((k : Int) - 1) ∧ t = .int .u64 ((Plain.val s.data.toList k (s.size - k) : Nat) : Int)) (fun _ i => (intOf i + 1).toNat)
  case atStart => exact ⟨s.size, by omega, rfl, by simp [Plain.val]⟩
  case round =>
    obtain ⟨k, hk, rfl, rfl⟩ := hrel
    by_cases hlt : 0 < k
    · obtain ⟨j, rfl⟩ : ∃ j, k = j + 1 := ⟨k - 1, by omega⟩
      have hx := Plain.val_lt s.data.toList (j + 1) (s.size - (j + 1))
      have HV : Hid (Plain.val s.data.toList j (s.size - j) = s[j].toNat + 256 * Plain.val s.data.toList (j + 1) (s.size - (j + 1))) := by
        unfold Hid
        rw [show s.size - j = (s.size - (j + 1)) + 1 from by omega, Plain.val_cons, getD_at s j (by omega)]
      have hb := Plain.byte_lt s[j]
      have h7 : Plain.val s.data.toList (j + 1) (s.size - (j + 1)) < 72057594037927936 := Nat.lt_of_lt_of_le hx (Nat.le_trans (Nat.pow_le_pow_right (by decide) (show s.size - (j + 1) ≤ 7 by omega)) (by decide))
      clear hx
      generalize Plain.val s.data.toList (j + 1) (s.size - (j + 1)) = z at *
      have e1 : ((j + 1 : Nat) : Int) - 1 = (j : Int) := by omega
      rw [e1]
      clear e1
      have HO : Hid (bits .or .u64 ((z : Int) * 256) (s[j].toNat : Int) = ((s[j].toNat + 256 * z : Nat) : Int)) := by
        have := Plain.or_up z s[j].toNat 8 hb (by omega)
        rw [show ((z * 2 ^ 8 : Nat) : Int) = (z : Int) * 256 from by simp] at this
        unfold Hid
        rw [this]
        omega
      go_wp2
      go_round
      case rel => exact ⟨j, by omega, rfl, by rw [HV.out, HO.out]⟩
      case measure => simp [intOf]
    · have hk0 : k = 0 := by omega
      subst hk0
      go_wp2
      go_ret
      exact ⟨rfl, rfl⟩

theorem getD_part (s : ByteArray) (a b i : Nat) (hi : i < b - a) : (s.extract a b).data.toList.getD i 0 = s.data.toList.getD (a + i) 0 := by
  have e : (s.extract a b).data.toList = (s.data.toList.drop a).take (b - a) := by simp [List.take_drop]
  rw [e, List.getD_eq_getElem?_getD, List.getD_eq_getElem?_getD, List.getElem?_take, if_pos hi, List.getElem?_drop]
theorem part (s : ByteArray) (a n : Nat) (h : a + n ≤ s.size) : ∃ p : ByteArray, p.size = n ∧ Hid (Plain.val p.data.toList 0 p.size = Plain.val s.data.toList a n) ∧
    ∀ w, (Instr.slice 9 (.string s) (some (.int .i64 (a : Int))) (some (.int .i64 ((a : Int) + (n : Int)))) none).run Tryz.prog w = .ok (.string p) w := by
  refine ⟨s.extract a (a + n), by simp; omega, ?_, fun w => ?_⟩
  · unfold Hid
    rw [show (s.extract a (a + n)).size = n from by simp; omega]
    refine Plain.val_congr _ _ _ _ _ fun i hi => ?_
    rw [Nat.zero_add, getD_part s a (a + n) i (by omega)]
  · have := run_slice_string (P := Tryz.prog) w 9 s .i64 .i64 (a : Int) ((a : Int) + (n : Int)) Tryz.underlying9 (by omega) (by omega) (by omega)
    rw [this, show ((a : Int) + (n : Int)).toNat = a + n from by omega, Int.toNat_natCast]
set_option maxHeartbeats 400000 in
theorem refGet4 (s : ByteArray) (a : Nat) (w : World) (hs : s.size ≤ 140737488355327) (h : a + 4 ≤ s.size) (hm : Plain.val s.data.toList a 4 ≤ 2147483647) :
    Calls Tryz.prog 55 #[.string s, .int .i64 (a : Int), .int .i64 4] w fun r w' => r = .returned (.tuple #[.int .i64 ((Plain.val s.data.toList a 4 : Nat) : Int), .int .i64 0]) ∧ w' = w := by
  obtain ⟨p, hp8, HP, hsl⟩ := part s a 4 h
  have HP8 : Hid (p.size = 4) := hp8
  clear hp8
  have hsl' : ∀ w, (Instr.slice 9 (.string s) (some (.int .i64 (a : Int))) (some (.int .i64 ((a : Int) + 4))) none).run Tryz.prog w = .ok (.string p) w := hsl
  clear hsl
  have HW : Hid (wrap64 ((Plain.val s.data.toList a 4 : Nat) : Int) = ((Plain.val s.data.toList a 4 : Nat) : Int)) := by unfold Hid wrap64; omega
  have h2 : shortB ((Plain.val s.data.toList a 4 : Nat) : Int) = true := decide_eq_true (by omega)
  go_enter Tryz.func55, Tryz.ntmps55
  go_wp2_with fail
  refine (refNum p _ (by rw [HP8.out]; decide)).mono ?_
  rintro e w' ⟨rfl, rfl⟩
  rw [HP.out, HW.out]
  go_wp2_with fail
  refine (refIn _ _).mono ?_
  rintro e w' ⟨rfl, rfl⟩
  rw [h2]
  go_wp2
  go_ret2
  exact ⟨rfl, rfl⟩
set_option maxHeartbeats 400000 in
theorem refGet4_no (s : ByteArray) (a : Nat) (w : World) (hs : s.size ≤ 140737488355327) (h : a + 4 ≤ s.size) (hm : 2147483647 < Plain.val s.data.toList a 4) :
    Calls Tryz.prog 55 #[.string s, .int .i64 (a : Int), .int .i64 4] w fun r w' => r = .returned (.tuple #[.int .i64 0, .int .i64 300]) ∧ w' = w := by
  obtain ⟨p, hp8, HP, hsl⟩ := part s a 4 h
  have HP8 : Hid (p.size = 4) := hp8
  clear hp8
  have hsl' : ∀ w, (Instr.slice 9 (.string s) (some (.int .i64 (a : Int))) (some (.int .i64 ((a : Int) + 4))) none).run Tryz.prog w = .ok (.string p) w := hsl
  clear hsl
  have hlt := Plain.val_lt s.data.toList a 4
  have HW : Hid (wrap64 ((Plain.val s.data.toList a 4 : Nat) : Int) = ((Plain.val s.data.toList a 4 : Nat) : Int)) := by unfold Hid wrap64; omega
  have h2 : shortB ((Plain.val s.data.toList a 4 : Nat) : Int) = false := decide_eq_false (by omega)
  go_enter Tryz.func55, Tryz.ntmps55
  go_wp2_with fail
  refine (refNum p _ (by rw [HP8.out]; decide)).mono ?_
  rintro e w' ⟨rfl, rfl⟩
  rw [HP.out, HW.out]
  go_wp2_with fail
  refine (refIn _ _).mono ?_
  rintro e w' ⟨rfl, rfl⟩
  rw [h2]
  go_wp2
  go_ret2
  exact ⟨rfl, rfl⟩
set_option maxHeartbeats 400000 in
theorem refGet_no (s : ByteArray) (a n : Int) (w : World) (hs : s.size ≤ 140737488355327) (h : ¬ ((n = 4 ∨ n = 8) ∧ 0 ≤ a ∧ a + n ≤ (s.size : Int))) :
    Calls Tryz.prog 55 #[.string s, .int .i64 a, .int .i64 n] w fun r w' => r = .returned (.tuple #[.int .i64 0, .int .i64 300]) ∧ w' = w := by
  by_cases h4 : n = 4
  · subst h4
    by_cases h0 : a < 0
    · clear h
      go_enter Tryz.func55, Tryz.ntmps55
      go_wp2
      go_ret2
      exact ⟨rfl, rfl⟩
    · have h5 : (s.size : Int) - 4 < a := by omega
      clear h
      go_enter Tryz.func55, Tryz.ntmps55
      go_wp2
      go_ret2
      exact ⟨rfl, rfl⟩
  · by_cases h8 : n = 8
    · subst h8
      by_cases h0 : a < 0
      · clear h
        go_enter Tryz.func55, Tryz.ntmps55
        go_wp2
        go_ret2
        exact ⟨rfl, rfl⟩
      · have h5 : (s.size : Int) - 8 < a := by omega
        clear h
        go_enter Tryz.func55, Tryz.ntmps55
        go_wp2
        go_ret2
        exact ⟨rfl, rfl⟩
    · clear h
      go_enter Tryz.func55, Tryz.ntmps55
      go_wp2
      go_ret2
      exact ⟨rfl, rfl⟩
end Go.Proofs.YtcpfhfdgfcilaaaGreatDoor.Fix
namespace Go.Proofs.YtcpfhfdgfcilaaaGreatDoor.Arr
open Go.ChangeShapes Go.WideShapes Go.ChangeAt Go.RowKit
open Tree

theorem drewN_below (w : World) (n : Nat) : Below w.heap.size w (w.drewN n) := below_drewN (Below.refl _ _) n
theorem bel2 {a b c : World} (h : Below a.heap.size a b) (k : Below b.heap.size b c) : Below a.heap.size a c := h.trans (k.mono h.size)
theorem ret_int {a b : Int} (h : a = b) : Ending.returned (.int .i64 a) = .returned (.int .i64 b) := by rw [h]
/-- An array as an argument. -/
def Arr.val (a : Arr) (o : Option Addr) (cap : Nat) : Value := .agg #[.int .i64 a.layout, .int .i64 a.offset, .int .i64 a.length, .string a.valid, .string a.ends, .string a.data, .slice o a.kids.length cap]
/-- An array in a box of its own. -/
structure Bx (w : World) (g : Nat) (a : Arr) (o : Option Addr) (cap : Nat) : Prop where
  blk : w.heap[g]? = some (.cells #[.int .i64 a.layout, .int .i64 a.offset, .int .i64 a.length, .string a.valid, .string a.ends, .string a.data, .slice o a.kids.length cap] 27)
theorem Bx.lt {w : World} {g : Nat} {a : Arr} {o : Option Addr} {cap : Nat} (h : Bx w g a o cap) : g < w.heap.size := by
  have := h.blk
  by_cases c : g < w.heap.size
  · exact c
  · rw [Array.getElem?_eq_none (by omega)] at this; cases this
theorem Bx.c0 {w : World} {g : Nat} {a : Arr} {o : Option Addr} {cap : Nat} (h : Bx w g a o cap) : w.cell? ⟨g, 0, none⟩ = some (.int .i64 a.layout) := by simp [World.cell?, h.blk]
theorem Bx.c1 {w : World} {g : Nat} {a : Arr} {o : Option Addr} {cap : Nat} (h : Bx w g a o cap) : w.cell? ⟨g, 1, none⟩ = some (.int .i64 a.offset) := by simp [World.cell?, h.blk]
theorem Bx.c2 {w : World} {g : Nat} {a : Arr} {o : Option Addr} {cap : Nat} (h : Bx w g a o cap) : w.cell? ⟨g, 2, none⟩ = some (.int .i64 a.length) := by simp [World.cell?, h.blk]
theorem Bx.c3 {w : World} {g : Nat} {a : Arr} {o : Option Addr} {cap : Nat} (h : Bx w g a o cap) : w.cell? ⟨g, 3, none⟩ = some (.string a.valid) := by simp [World.cell?, h.blk]
theorem Bx.c4 {w : World} {g : Nat} {a : Arr} {o : Option Addr} {cap : Nat} (h : Bx w g a o cap) : w.cell? ⟨g, 4, none⟩ = some (.string a.ends) := by simp [World.cell?, h.blk]
theorem Bx.c5 {w : World} {g : Nat} {a : Arr} {o : Option Addr} {cap : Nat} (h : Bx w g a o cap) : w.cell? ⟨g, 5, none⟩ = some (.string a.data) := by simp [World.cell?, h.blk]
theorem Bx.c6 {w : World} {g : Nat} {a : Arr} {o : Option Addr} {cap : Nat} (h : Bx w g a o cap) : w.cell? ⟨g, 6, none⟩ = some (.slice o a.kids.length cap) := by simp [World.cell?, h.blk]
theorem Bx.fz {w : World} {g : Nat} {a : Arr} {o : Option Addr} {cap : Nat} (h : Bx w g a o cap) (j : Nat) : w.frozen? ⟨g, j, none⟩ = false := by simp [World.frozen?, h.blk]
theorem Bx.later {w : World} {g : Nat} {a : Arr} {o : Option Addr} {cap : Nat} (h : Bx w g a o cap) {w' : World} (hb : Below w.heap.size w w') : Bx w' g a o cap := ⟨(hb.block g h.lt).trans h.blk⟩
theorem box7 (w : World) (a : Arr) (o : Option Addr) (cap : Nat) : ∃ w1, w.alloc (.cells #[.int .i64 a.layout, .int .i64 a.offset, .int .i64 a.length, .string a.valid, .string a.ends, .string a.data, .slice o a.kids.length cap] 27) = w1 ∧ Bx w1 w.heap.size a o cap ∧ Below w.heap.size w w1 ∧ w.heap.size < w1.heap.size :=
  ⟨_, rfl, ⟨heap_alloc_new _ _⟩, (Below.refl _ _).alloc (Nat.le_refl _) _, by simp⟩
/-- A node in a box. -/
theorem box3n (w : World) (n : Nd) : ∃ w1, w.alloc (.cells #[.int .i64 n.kind, .int .i64 n.par, .bool n.null] 40) = w1 ∧ w1.cell? ⟨w.heap.size, 0, none⟩ = some (.int .i64 n.kind) ∧ w1.cell? ⟨w.heap.size, 1, none⟩ = some (.int .i64 n.par) ∧ w1.cell? ⟨w.heap.size, 2, none⟩ = some (.bool n.null) ∧ Below w.heap.size w w1 :=
  ⟨_, rfl, by rw [World.cell?, heap_alloc_new]; rfl, by rw [World.cell?, heap_alloc_new]; rfl, by rw [World.cell?, heap_alloc_new]; rfl, (Below.refl _ _).alloc (Nat.le_refl _) _⟩

def hasRowsB (a : Arr) : Bool := decide (0 ≤ a.offset ∧ 0 ≤ a.length ∧ a.offset + a.length ≤ 64)
theorem rows (a : Arr) (o : Option Addr) (cap : Nat) (h0 : 0 ≤ a.offset) (h1 : 0 ≤ a.length) (h2 : a.offset + a.length ≤ 64) (w : World) :
    Calls Tryz.prog 124 #[a.val o cap] w fun r w' => r = .returned (.int .i64 ((rowsOf a : Nat) : Int)) ∧ Below w.heap.size w w' := by
  obtain ⟨w1, e1, x1, b1, z1⟩ := box7 w a o cap
  have d1 := x1.c1
  have d2 := x1.c2
  have HF : Hid (((rowsOf a : Nat) : Int) = a.offset + a.length) := by unfold Hid rowsOf; omega
  have B1 : Hid (Below w.heap.size w w1) := b1
  clear x1 b1 z1
  unfold Arr.val
  generalize rowsOf a = R at *
  generalize a.offset = p at *
  generalize a.length = q at *
  go_enter Tryz.func124, Tryz.ntmps124
  go_wp2
  go_ret
  exact ⟨ret_int HF.out.symm, B1.out⟩
def isLeafB (k : Int) : Bool := decide (k ≠ 3 ∧ k ≠ 4)
theorem isLeaf (n : Nd) (w : World) :
    Calls Tryz.prog 74 #[.agg #[.int .i64 n.kind, .int .i64 n.par, .bool n.null]] w fun r w' => r = .returned (.bool (isLeafB n.kind)) ∧ Below w.heap.size w w' := by
  obtain ⟨w1, e1, c0, c1, c2, b1⟩ := box3n w n
  have HF : Hid (isLeafB n.kind = decide (n.kind ≠ 3 ∧ n.kind ≠ 4)) := rfl
  have B1 : Hid (Below w.heap.size w w1) := b1
  clear b1
  generalize isLeafB n.kind = R at *
  generalize n.kind = k at *
  by_cases h3 : k = 3
  · have HF2 : Hid (R = false) := by unfold Hid; rw [HF.out]; exact decide_eq_false (by omega)
    subst h3
    go_enter Tryz.func74, Tryz.ntmps74
    go_wp2
    go_ret
    exact ⟨ret_bool HF2.out.symm, B1.out⟩
  · have n3 : (k == 3) = false := by rw [beq_eq_false_iff_ne]; exact h3
    by_cases h4 : k = 4
    · have HF2 : Hid (R = false) := by unfold Hid; rw [HF.out]; exact decide_eq_false (by omega)
      subst h4
      go_enter Tryz.func74, Tryz.ntmps74
      go_wp2
      go_ret
      exact ⟨ret_bool HF2.out.symm, B1.out⟩
    · have n4 : (k == 4) = false := by rw [beq_eq_false_iff_ne]; exact h4
      have HF2 : Hid (R = true) := by unfold Hid; rw [HF.out]; exact decide_eq_true ⟨h3, h4⟩
      have m3 : (k != 3) = true := by rw [bne_iff_ne]; exact h3
      have m4 : (k != 4) = true := by rw [bne_iff_ne]; exact h4
      go_enter Tryz.func74, Tryz.ntmps74
      go_wp2
      go_ret
      exact ⟨ret_bool HF2.out.symm, B1.out⟩
end Go.Proofs.YtcpfhfdgfcilaaaGreatDoor.Arr
namespace Go.Proofs.YtcpfhfdgfcilaaaGreatDoor.Arr
open Go.ChangeShapes Go.WideShapes Go.ChangeAt Go.RowKit
open Tree Val

def shortsOf (a b c : ByteArray) : Bool := decide (a.size ≤ 4096) && decide (b.size ≤ 4096) && decide (c.size ≤ 4096)
theorem there_bit {a : Arr} {r : Nat} (h : a.valid.size ≠ 0) : there a r = BitP.bit (bl a.valid) r := by
  unfold there
  rw [decide_eq_false h, Bool.false_or]
theorem empty_of {s : ByteArray} (h : s.size = 0) : s = ⟨#[]⟩ := by
  rcases s with ⟨d⟩
  have : d.size = 0 := h
  rw [Array.eq_empty_of_size_eq_zero this]
theorem ne_empty {s : ByteArray} (h : s.size ≠ 0) : s.toList.isEmpty = false := by
  cases hc : s.toList with
  | nil =>
    exfalso
    rw [ByteArray.toList_eq] at hc
    have : s.data.toList.length = 0 := by rw [hc]; rfl
    exact h (by simpa using this)
  | cons b l => rfl
end Go.Proofs.YtcpfhfdgfcilaaaGreatDoor.Arr
namespace Go.Proofs.YtcpfhfdgfcilaaaGreatDoor.Arr
open Go.ChangeShapes Go.WideShapes Go.ChangeAt Go.RowKit
open Tree Val

end Go.Proofs.YtcpfhfdgfcilaaaGreatDoor.Arr
namespace Go.Proofs.YtcpfhfdgfcilaaaGreatDoor.Arr
open Go.ChangeShapes Go.WideShapes Go.ChangeAt Go.RowKit
open Tree Val

def belowB (s : ByteArray) (r : Nat) (m : Int) : Bool := has4 s r && decide ((endAt s r : Int) < m)
/-- Ints lie in a block, from a place on. -/
def IntsAt (w : World) (g off n : Nat) (z : Nat → Int) : Prop := ∀ j, j < n → w.cell? ⟨g, off + j, none⟩ = some (.int .i64 (z j))
theorem IntsAt.later {w w' : World} {g off n : Nat} {z : Nat → Int} (h : IntsAt w g off n z) (hb : Below w.heap.size w w') : IntsAt w' g off n z := fun j hj => cell_later hb (h j hj)
end Go.Proofs.YtcpfhfdgfcilaaaGreatDoor.Arr
namespace Go.Proofs.YtcpfhfdgfcilaaaGreatDoor.Tree
open Go.ChangeShapes Go.WideShapes Go.ChangeAt Go.RowKit

/-- A world in which what w1 has still stands. -/
structure BW (w1 : World) where
  w : World
  ok : Below w1.heap.size w1 w
theorem BW.some (w1 : World) : Nonempty (BW w1) := ⟨⟨w1, Below.refl _ _⟩⟩
theorem region_in {P : Program} {C : World → Prop} {id : Nat} {Q : Exit → Act → World → Prop} {a : Act} {w : World} {l : List Oper} (hm : P.follows .mixedOrders = true) (hB : Region.lexB .any l.toArray = true) (hC : C w.drew)
    (h : wpQuiet P l.toArray C (fun a' => ∀ w', C w' → Q .normal a' w') l a) : (Code.region id l.toArray true).wp P Q a w :=
  wp_region_quiet (C := C) hm hB hC (by simpa using h)
end Go.Proofs.YtcpfhfdgfcilaaaGreatDoor.Tree
namespace Go.Proofs.YtcpfhfdgfcilaaaGreatDoor.Arr
open Go.ChangeShapes Go.WideShapes Go.ChangeAt Go.RowKit
open Tree Val

end Go.Proofs.YtcpfhfdgfcilaaaGreatDoor.Arr
