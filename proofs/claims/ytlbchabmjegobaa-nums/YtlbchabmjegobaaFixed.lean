/-
  What num.Put, num.Get and what they call compute: contracts.
-/
import Derived.Test.YtlbchabmjegobaaRows
import Derived.Test.YtlbchabmjegobaaPlain
import Derived.WalkKit
import Derived.ProofKit
import Derived.OpenShut
import Derived.Below
import Derived.RegionTactic
import Derived.ChangeAlike
import Derived.Laws.IdiomStrings
namespace Go.Proofs.Ytlbchabmjegobaa.Fix
open Go.ChangeShapes Go.WideShapes Go.ChangeAt Go.RowKit

theorem bel {a b c : World} (h : Below a.heap.size a b) (k : Below b.heap.size b c) : Below a.heap.size a c := h.trans (k.mono h.size)
theorem ret_bool {a b : Bool} (h : a = b) : Ending.returned (.bool a) = .returned (.bool b) := by rw [h]
theorem ret2_int {a b : Int} {y : Value} (h : a = b) : Ending.returned (.tuple #[.int .i64 a, y]) = .returned (.tuple #[.int .i64 b, y]) := by rw [h]
theorem ret2_str {a b : List UInt8} {y : Value} (h : a = b) : Ending.returned (.tuple #[.string ⟨a.toArray⟩, y]) = .returned (.tuple #[.string ⟨b.toArray⟩, y]) := by rw [h]

theorem num (e : Int) (w : World) :
    Calls Try.prog 16 #[.int .i64 e] w fun r w' => r = .returned (.int .i64 e) ∧ w' = w := by
  go_enter Try.func16, Try.ntmps16
  go_wp2
  go_ret
  exact ⟨rfl, rfl⟩

/-- May a number be laid down in so many bytes? -/
def sizeB (n : Int) : Bool := decide (n = 4 ∨ n = 8)
theorem isSize (x : Int) (w : World) :
    Calls Try.prog 18 #[.int .i64 x] w fun r w' => r = .returned (.bool (sizeB x)) ∧ w' = w := by
  by_cases h : x = 4
  · subst h
    rw [show sizeB 4 = true from by decide]
    go_enter Try.func18, Try.ntmps18
    go_wp2
    go_ret
    exact ⟨rfl, rfl⟩
  · by_cases h8 : x = 8
    · subst h8
      rw [show sizeB 8 = true from by decide]
      go_enter Try.func18, Try.ntmps18
      go_wp2
      go_ret
      exact ⟨rfl, rfl⟩
    · rw [show sizeB x = false from decide_eq_false (by omega)]
      go_enter Try.func18, Try.ntmps18
      go_wp2
      go_ret
      exact ⟨ret_bool (by simp [h, h8]), rfl⟩
/-- Is it from 0 to Most? -/
def shortB (x : Int) : Bool := decide (0 ≤ x ∧ x ≤ 2147483647)
theorem isShort (x : Int) (w : World) :
    Calls Try.prog 19 #[.int .i64 x] w fun r w' => r = .returned (.bool (shortB x)) ∧ w' = w := by
  by_cases h : 0 ≤ x
  · by_cases h2 : x ≤ 2147483647
    · rw [show shortB x = true from decide_eq_true ⟨h, h2⟩]
      go_enter Try.func19, Try.ntmps19
      go_wp2
      go_ret
      exact ⟨rfl, rfl⟩
    · rw [show shortB x = false from decide_eq_false (by omega)]
      go_enter Try.func19, Try.ntmps19
      go_wp2
      go_ret
      exact ⟨ret_bool (by simp), rfl⟩
  · rw [show shortB x = false from decide_eq_false (by omega)]
    go_enter Try.func19, Try.ntmps19
    go_wp2
    go_ret
    exact ⟨rfl, rfl⟩
/-- How many bytes there are from a on. -/
def roomI (len : Nat) (a : Int) : Int := if 0 ≤ a ∧ a ≤ (len : Int) then (len : Int) - a else 0
theorem room (s : ByteArray) (a : Int) (w : World) (hs : s.size ≤ 140737488355327) :
    Calls Try.prog 22 #[.string s, .int .i64 a] w fun r w' => r = .returned (.int .i64 (roomI s.size a)) ∧ w' = w := by
  by_cases h : 0 ≤ a
  · by_cases h2 : a ≤ (s.size : Int)
    · rw [show roomI s.size a = (s.size : Int) - a from if_pos ⟨h, h2⟩]
      go_enter Try.func22, Try.ntmps22
      go_wp2
      go_ret
      exact ⟨rfl, rfl⟩
    · rw [show roomI s.size a = 0 from if_neg (by omega)]
      go_enter Try.func22, Try.ntmps22
      go_wp2
      go_ret
      exact ⟨rfl, rfl⟩
  · rw [show roomI s.size a = 0 from if_neg (by omega)]
    go_enter Try.func22, Try.ntmps22
    go_wp2
    go_ret
    exact ⟨rfl, rfl⟩

/-- So many bytes lie at the head of block g, and may be written. -/
structure Bytes (w : World) (g : Nat) (l : List UInt8) : Prop where
  cell : ∀ i, i < l.length → w.cell? ⟨g, i, none⟩ = some (.int .u8 (((l.getD i 0).toNat : Nat) : Int))
  free : ∀ i, i < l.length → w.frozen? ⟨g, i, none⟩ = false
theorem Bytes.set {w : World} {g : Nat} {l : List UInt8} (h : Bytes w g l) (j : Nat) (hj : j < l.length) (v : UInt8) : Bytes (w.setCell ⟨g, j, none⟩ (.int .u8 ((v.toNat : Nat) : Int))) g (l.set j v) := by
  constructor
  · intro i hi
    rw [List.length_set] at hi
    by_cases e : i = j
    · subst e
      rw [World.cell?_setCell_same _ _ _ (h.cell i hi), List.getD_eq_getElem?_getD, List.getElem?_set_self hi]
      rfl
    · rw [World.cell?_setCell_other _ _ _ _ (by intro c; exact e (by injection c with _ c2; exact c2.symm)), h.cell i hi, List.getD_eq_getElem?_getD, List.getD_eq_getElem?_getD, List.getElem?_set_ne (fun c => e c.symm)]
  · intro i hi
    rw [List.length_set] at hi
    rw [World.frozen?_setCell]
    exact h.free i hi
theorem Bytes.back {w : World} {g L c : Nat} {l : List UInt8} (h : Bytes w g l) (hl : L = l.length) : (convert 47 9 (.slice (some ⟨g, 0, none⟩) L c)).run Try.prog w = .ok (.string ⟨l.toArray⟩) w := by
  rw [hl]
  refine run_convert_bytes_back w 47 9 5 ⟨g, 0, none⟩ c l Try.underlying47 Try.underlying5 Try.underlying9 ?_
  intro j hj
  rw [Addr.add_lit, Nat.zero_add, h.cell j hj, List.getD_eq_getElem?_getD, List.getElem?_eq_getElem hj]
  rfl
theorem info5 : (Try.prog.info? 5).map (fun i => (i.zero, i.size, i.bytes)) = some (some (.int .u8 0), 1, 1) := by kernel_rfl
/-- So many zero bytes, as cells. -/
def zeros (n : Nat) : Array Value := madeCells (Value.cells (.int .u8 0)) n
theorem zeros_at (n i : Nat) (h : i < n) : (zeros n)[i]? = some (.int .u8 0) := by
  unfold zeros
  rw [← Array.getElem?_toList, show (Value.cells (.int .u8 0)) = #[.int .u8 0] from rfl, toList_madeCells_one, List.getElem?_replicate, if_pos h]
theorem Bytes.zeros (w : World) (n : Nat) : Bytes (w.alloc (.cells (zeros n) 5)) w.heap.size (List.replicate n 0) := by
  constructor
  · intro i hi
    rw [List.length_replicate] at hi
    rw [World.cell?_alloc_mark, zeros_at n i hi, List.getD_eq_getElem?_getD, List.getElem?_replicate, if_pos hi]
    rfl
  · intro i _
    rw [World.frozen?_alloc_mark]
    simp
theorem make_bytes (n : Nat) (h : n ≤ 140737488351232) (w : World) :
    ∃ w1, (Instr.makeSlice 47 (.int .i64 (n : Int)) (.int .i64 (n : Int))).run Try.prog w = .ok (.slice (some ⟨w.heap.size, 0, none⟩) n n) w1 ∧ Bytes w1 w.heap.size (List.replicate n 0) ∧ Below w.heap.size w w1 := by
  obtain ⟨i, hi, hz0, hz1, hz2⟩ := info_parts info5
  have := run_make (P := Try.prog) w 47 5 i (.int .u8 0) Try.underlying47 hi hz0 .i64 .i64 n n (by omega) (Int.le_refl _) (by rw [hz2]; omega) (by omega)
  rw [hz1, Nat.mul_one, Int.toNat_natCast] at this
  exact ⟨_, this, Bytes.zeros w n, (Below.refl _ _).alloc (Nat.le_refl _) _⟩

set_option maxHeartbeats 400000 in
theorem put4 (x : Int) (X : Nat) (hX : IntKind.u64.wrap x = (X : Int)) (w : World) (h0 : 0 ≤ x) (h3 : x ≤ 2147483647) :
    Calls Try.prog 8 #[.int .i64 x, .int .i64 4] w fun r w' => r = .returned (.tuple #[.string ⟨(Plain.low X 4).toArray⟩, .int .i64 0]) ∧ Below w.heap.size w w' := by
  have hX1 : X < 18446744073709551616 := by rw [IntKind.wrap_u64] at hX; omega
  have h1 : sizeB 4 = true := by decide
  have h2 : shortB x = true := decide_eq_true ⟨h0, h3⟩
  obtain ⟨w1, hmk, hb1, hbl1⟩ := make_bytes 4 (by decide) w
  rw [← Plain.lowTo_zero X] at hb1
  have hmk' : (Instr.makeSlice 47 (.int .i64 4) (.int .i64 4)).run Try.prog w = .ok (.slice (some ⟨w.heap.size, 0, none⟩) 4 4) w1 := hmk
  clear hmk
  go_enter Try.func8, Try.ntmps8
  go_wp2_with fail
  refine (isSize _ _).mono ?_
  rintro e w' ⟨rfl, rfl⟩
  rw [h1]
  go_wp2_with fail
  refine (isShort _ _).mono ?_
  rintro e w' ⟨rfl, rfl⟩
  rw [h2]
  go_wp2_with fail
  go_loopw [7, 27] (fun t i wr => ∃ k : Nat, k ≤ 4 ∧ i = .int .i64 k ∧ t = .int .u64 ((X / 256 ^ k : Nat) : Int) ∧ Bytes wr w'.heap.size (Plain.lowTo X 4 k) ∧ Below w'.heap.size w' wr) (fun _ i _ => 4 - (intOf i).toNat)
  case atStart => exact ⟨0, by omega, rfl, by simp, hb1, hbl1⟩
  case round =>
    obtain ⟨k, hk, rfl, rfl, hb, hbl⟩ := hrel
    have HB : Hid (Bytes wr w'.heap.size (Plain.lowTo X 4 k)) := hb
    clear hb hb1 hbl1 hmk' hX
    by_cases hlt : k < 4
    · have hc := HB.out.cell k (by rw [Plain.length_lowTo]; exact hlt)
      have hf := HB.out.free k (by rw [Plain.length_lowTo]; exact hlt)
      have HB2 : Hid (Bytes (wr.setCell ⟨w'.heap.size, k, none⟩ (.int .u8 ((X / 256 ^ k : Nat) % 256 : Int))) w'.heap.size (Plain.lowTo X 4 (k + 1))) := by
        have := HB.out.set k (by rw [Plain.length_lowTo]; exact hlt) (UInt8.ofNat (X / 256 ^ k))
        rw [← Plain.lowTo_succ] at this
        have e : (((UInt8.ofNat (X / 256 ^ k)).toNat : Nat) : Int) = ((X / 256 ^ k : Nat) % 256 : Int) := by simp
        rw [e] at this
        exact this
      have HD : Hid (X / 256 ^ (k + 1) = X / 256 ^ k / 256) := by unfold Hid; rw [Nat.pow_succ, Nat.div_div_eq_div_mul]
      have hle : X / 256 ^ k < 18446744073709551616 := Nat.lt_of_le_of_lt (Nat.div_le_self _ _) hX1
      generalize X / 256 ^ k = z at *
      generalize ((Plain.lowTo X 4 k).getD k 0).toNat = y at *
      go_wp2
      go_roundw
      case rel => exact ⟨k + 1, by omega, by go_num, by rw [HD.out]; go_num, HB2.out, hbl.setCell (Nat.le_refl _) _⟩
      case measure => simp [intOf]; omega
    · have hk4 : k = 4 := by omega
      subst hk4
      have hbk := HB.out.back (L := 4) (c := 4) (Plain.length_lowTo _ _ _).symm
      go_wp2
      go_ret2
      exact ⟨ret2_str (Plain.lowTo_all _ _), hbl⟩
set_option maxHeartbeats 400000 in
theorem put8 (x : Int) (X : Nat) (hX : IntKind.u64.wrap x = (X : Int)) (w : World) :
    Calls Try.prog 8 #[.int .i64 x, .int .i64 8] w fun r w' => r = .returned (.tuple #[.string ⟨(Plain.low X 8).toArray⟩, .int .i64 0]) ∧ Below w.heap.size w w' := by
  have hX1 : X < 18446744073709551616 := by rw [IntKind.wrap_u64] at hX; omega
  have h1 : sizeB 8 = true := by decide
  obtain ⟨w1, hmk, hb1, hbl1⟩ := make_bytes 8 (by decide) w
  rw [← Plain.lowTo_zero X] at hb1
  have hmk' : (Instr.makeSlice 47 (.int .i64 8) (.int .i64 8)).run Try.prog w = .ok (.slice (some ⟨w.heap.size, 0, none⟩) 8 8) w1 := hmk
  clear hmk
  go_enter Try.func8, Try.ntmps8
  go_wp2_with fail
  refine (isSize _ _).mono ?_
  rintro e w' ⟨rfl, rfl⟩
  rw [h1]
  go_wp2_with fail
  go_loopw [7, 27] (fun t i wr => ∃ k : Nat, k ≤ 8 ∧ i = .int .i64 k ∧ t = .int .u64 ((X / 256 ^ k : Nat) : Int) ∧ Bytes wr w'.heap.size (Plain.lowTo X 8 k) ∧ Below w'.heap.size w' wr) (fun _ i _ => 8 - (intOf i).toNat)
  case atStart => exact ⟨0, by omega, rfl, by simp, hb1, hbl1⟩
  case round =>
    obtain ⟨k, hk, rfl, rfl, hb, hbl⟩ := hrel
    have HB : Hid (Bytes wr w'.heap.size (Plain.lowTo X 8 k)) := hb
    clear hb hb1 hbl1 hmk' hX
    by_cases hlt : k < 8
    · have hc := HB.out.cell k (by rw [Plain.length_lowTo]; exact hlt)
      have hf := HB.out.free k (by rw [Plain.length_lowTo]; exact hlt)
      have HB2 : Hid (Bytes (wr.setCell ⟨w'.heap.size, k, none⟩ (.int .u8 ((X / 256 ^ k : Nat) % 256 : Int))) w'.heap.size (Plain.lowTo X 8 (k + 1))) := by
        have := HB.out.set k (by rw [Plain.length_lowTo]; exact hlt) (UInt8.ofNat (X / 256 ^ k))
        rw [← Plain.lowTo_succ] at this
        have e : (((UInt8.ofNat (X / 256 ^ k)).toNat : Nat) : Int) = ((X / 256 ^ k : Nat) % 256 : Int) := by simp
        rw [e] at this
        exact this
      have HD : Hid (X / 256 ^ (k + 1) = X / 256 ^ k / 256) := by unfold Hid; rw [Nat.pow_succ, Nat.div_div_eq_div_mul]
      have hle : X / 256 ^ k < 18446744073709551616 := Nat.lt_of_le_of_lt (Nat.div_le_self _ _) hX1
      generalize X / 256 ^ k = z at *
      generalize ((Plain.lowTo X 8 k).getD k 0).toNat = y at *
      go_wp2
      go_roundw
      case rel => exact ⟨k + 1, by omega, by go_num, by rw [HD.out]; go_num, HB2.out, hbl.setCell (Nat.le_refl _) _⟩
      case measure => simp [intOf]; omega
    · have hk8 : k = 8 := by omega
      subst hk8
      have hbk := HB.out.back (L := 8) (c := 8) (Plain.length_lowTo _ _ _).symm
      go_wp2
      go_ret2
      exact ⟨ret2_str (Plain.lowTo_all _ _), hbl⟩

set_option maxHeartbeats 400000 in
theorem put_no (x n : Int) (w : World) (h : ¬ (n = 4 ∧ 0 ≤ x ∧ x ≤ 2147483647 ∨ n = 8)) :
    Calls Try.prog 8 #[.int .i64 x, .int .i64 n] w fun r w' => r = .returned (.tuple #[.string ⟨#[]⟩, .int .i64 300]) ∧ w' = w := by
  by_cases h4 : n = 4
  · subst h4
    have h1 : sizeB 4 = true := by decide
    have h2 : shortB x = false := decide_eq_false (by omega)
    clear h
    go_enter Try.func8, Try.ntmps8
    go_wp2_with fail
    refine (isSize _ _).mono ?_
    rintro e w' ⟨rfl, rfl⟩
    rw [h1]
    go_wp2_with fail
    refine (isShort _ _).mono ?_
    rintro e w' ⟨rfl, rfl⟩
    rw [h2]
    go_wp2
    go_ret2
    exact ⟨rfl, rfl⟩
  · have h1 : sizeB n = false := decide_eq_false (by omega)
    clear h h4
    go_enter Try.func8, Try.ntmps8
    go_wp2_with fail
    refine (isSize _ _).mono ?_
    rintro e w' ⟨rfl, rfl⟩
    rw [h1]
    go_wp2
    go_ret2
    exact ⟨rfl, rfl⟩

theorem getD_at (s : ByteArray) (j : Nat) (h : j < s.size) : s.data.toList.getD j 0 = s[j] := by
  have h' : j < s.data.toList.length := by simpa using h
  rw [List.getD_eq_getElem?_getD, List.getElem?_eq_getElem h']
  rfl

set_option maxHeartbeats 400000 in
theorem get8 (s : ByteArray) (a : Nat) (w : World) (hs : s.size ≤ 140737488355327) (h : a + 8 ≤ s.size) :
    Calls Try.prog 10 #[.string s, .int .i64 (a : Int), .int .i64 8] w fun r w' => r = .returned (.tuple #[.int .i64 (wrap64 ((Plain.val s.data.toList a 8 : Nat) : Int)), .int .i64 0]) ∧ w' = w := by
  have h1 : sizeB 8 = true := by decide
  have h2 : roomI s.size (a : Int) = (s.size : Int) - a := if_pos (by omega)
  go_enter Try.func10, Try.ntmps10
  go_wp2_with fail
  refine (isSize _ _).mono ?_
  rintro e w' ⟨rfl, rfl⟩
  rw [h1]
  go_wp2_with fail
  refine (room _ _ _ hs).mono ?_
  rintro e w' ⟨rfl, rfl⟩
  rw [h2]
  go_wp2_with fail
  go_loop [8, 21] (fun t i => ∃ k : Nat, k ≤ 8 ∧ i = .int .i64 k ∧ t = .int .u64 ((Plain.val s.data.toList a k : Nat) : Int)) (fun _ i => 8 - (intOf i).toNat)
  case atStart => exact ⟨0, by omega, rfl, rfl⟩
  case round =>
    obtain ⟨k, hk, rfl, rfl⟩ := hrel
    by_cases hlt : k < 8
    · have hx := Plain.val_lt s.data.toList a k
      have hx2 := Plain.val_lt s.data.toList a (k + 1)
      have HV : Hid (Plain.val s.data.toList a (k + 1) = Plain.val s.data.toList a k + s[a + k].toNat * 256 ^ k) := by
        unfold Hid; rw [Plain.val, getD_at s (a + k) (by omega)]
      have hb := Plain.byte_lt s[a + k]
      clear hx2
      generalize Plain.val s.data.toList a k = z at *
      go_wp2
      go_round
      case rel => exact ⟨k + 1, by omega, by go_num, by rw [HV.out, Plain.step8 z _ k hlt hx hb]⟩
      case measure => simp [intOf]; omega
    · have hk8 : k = 8 := by omega
      subst hk8
      go_wp2
      go_ret2
      exact ⟨rfl, rfl⟩
set_option maxHeartbeats 400000 in
theorem get4 (s : ByteArray) (a : Nat) (w : World) (hs : s.size ≤ 140737488355327) (h : a + 4 ≤ s.size) (hm : Plain.val s.data.toList a 4 ≤ 2147483647) :
    Calls Try.prog 10 #[.string s, .int .i64 (a : Int), .int .i64 4] w fun r w' => r = .returned (.tuple #[.int .i64 ((Plain.val s.data.toList a 4 : Nat) : Int), .int .i64 0]) ∧ w' = w := by
  have h1 : sizeB 4 = true := by decide
  have h2 : roomI s.size (a : Int) = (s.size : Int) - a := if_pos (by omega)
  go_enter Try.func10, Try.ntmps10
  go_wp2_with fail
  refine (isSize _ _).mono ?_
  rintro e w' ⟨rfl, rfl⟩
  rw [h1]
  go_wp2_with fail
  refine (room _ _ _ hs).mono ?_
  rintro e w' ⟨rfl, rfl⟩
  rw [h2]
  go_wp2_with fail
  go_loop [8, 21] (fun t i => ∃ k : Nat, k ≤ 4 ∧ i = .int .i64 k ∧ t = .int .u64 ((Plain.val s.data.toList a k : Nat) : Int)) (fun _ i => 4 - (intOf i).toNat)
  case atStart => exact ⟨0, by omega, rfl, rfl⟩
  case round =>
    obtain ⟨k, hk, rfl, rfl⟩ := hrel
    by_cases hlt : k < 4
    · have hx := Plain.val_lt s.data.toList a k
      have hx2 := Plain.val_lt s.data.toList a (k + 1)
      have HV : Hid (Plain.val s.data.toList a (k + 1) = Plain.val s.data.toList a k + s[a + k].toNat * 256 ^ k) := by
        unfold Hid; rw [Plain.val, getD_at s (a + k) (by omega)]
      have hb := Plain.byte_lt s[a + k]
      clear hx2
      generalize Plain.val s.data.toList a k = z at *
      go_wp2
      go_round
      case rel => exact ⟨k + 1, by omega, by go_num, by rw [HV.out, Plain.step8 z _ k (by omega) hx hb]⟩
      case measure => simp [intOf]; omega
    · have hk8 : k = 4 := by omega
      subst hk8
      go_wp2
      go_ret2
      exact ⟨rfl, rfl⟩
set_option maxHeartbeats 400000 in
theorem get4_no (s : ByteArray) (a : Nat) (w : World) (hs : s.size ≤ 140737488355327) (h : a + 4 ≤ s.size) (hm : 2147483647 < Plain.val s.data.toList a 4) :
    Calls Try.prog 10 #[.string s, .int .i64 (a : Int), .int .i64 4] w fun r w' => r = .returned (.tuple #[.int .i64 0, .int .i64 300]) ∧ w' = w := by
  have h1 : sizeB 4 = true := by decide
  have h2 : roomI s.size (a : Int) = (s.size : Int) - a := if_pos (by omega)
  go_enter Try.func10, Try.ntmps10
  go_wp2_with fail
  refine (isSize _ _).mono ?_
  rintro e w' ⟨rfl, rfl⟩
  rw [h1]
  go_wp2_with fail
  refine (room _ _ _ hs).mono ?_
  rintro e w' ⟨rfl, rfl⟩
  rw [h2]
  go_wp2_with fail
  go_loop [8, 21] (fun t i => ∃ k : Nat, k ≤ 4 ∧ i = .int .i64 k ∧ t = .int .u64 ((Plain.val s.data.toList a k : Nat) : Int)) (fun _ i => 4 - (intOf i).toNat)
  case atStart => exact ⟨0, by omega, rfl, rfl⟩
  case round =>
    obtain ⟨k, hk, rfl, rfl⟩ := hrel
    by_cases hlt : k < 4
    · have hx := Plain.val_lt s.data.toList a k
      have hx2 := Plain.val_lt s.data.toList a (k + 1)
      have HV : Hid (Plain.val s.data.toList a (k + 1) = Plain.val s.data.toList a k + s[a + k].toNat * 256 ^ k) := by
        unfold Hid; rw [Plain.val, getD_at s (a + k) (by omega)]
      have hb := Plain.byte_lt s[a + k]
      clear hx2
      generalize Plain.val s.data.toList a k = z at *
      go_wp2
      go_round
      case rel => exact ⟨k + 1, by omega, by go_num, by rw [HV.out, Plain.step8 z _ k (by omega) hx hb]⟩
      case measure => simp [intOf]; omega
    · have hk8 : k = 4 := by omega
      subst hk8
      generalize Plain.val s.data.toList a 4 = z at *
      go_wp2
      go_ret2
      exact ⟨rfl, rfl⟩

set_option maxHeartbeats 400000 in
theorem get_no (s : ByteArray) (a n : Int) (w : World) (hs : s.size ≤ 140737488355327) (h : ¬ ((n = 4 ∨ n = 8) ∧ 0 ≤ a ∧ a + n ≤ (s.size : Int))) :
    Calls Try.prog 10 #[.string s, .int .i64 a, .int .i64 n] w fun r w' => r = .returned (.tuple #[.int .i64 0, .int .i64 300]) ∧ w' = w := by
  cases h1 : sizeB n
  · clear h
    go_enter Try.func10, Try.ntmps10
    go_wp2_with fail
    refine (isSize _ _).mono ?_
    rintro e w' ⟨rfl, rfl⟩
    rw [h1]
    go_wp2
    go_ret2
    exact ⟨rfl, rfl⟩
  · have hn : n = 4 ∨ n = 8 := of_decide_eq_true h1
    have h2 : roomI s.size a < n := by
      unfold roomI
      split <;> omega
    clear h
    have HN : Hid (n = 4 ∨ n = 8) := hn
    clear hn
    go_enter Try.func10, Try.ntmps10
    go_wp2_with fail
    refine (isSize _ _).mono ?_
    rintro e w' ⟨rfl, rfl⟩
    rw [h1]
    go_wp2_with fail
    refine (room _ _ _ hs).mono ?_
    rintro e w' ⟨rfl, rfl⟩
    generalize roomI s.size a = q at *
    go_wp2
    go_ret2
    exact ⟨rfl, rfl⟩
end Go.Proofs.Ytlbchabmjegobaa.Fix
