/-
  Bytes in a block, parts of a text, bytes turned: what the two laws that turn bytes lean on.
-/
import Derived.Test.YtnfneaalkjnnfaaRows
import Derived.Test.YtnfneaalkjnnfaaPlain
import Derived.Test.YtnfneaalkjnnfaaSum
import Derived.WalkKit
import Derived.ProofKit
import Derived.OpenShut
import Derived.Below
import Derived.RegionTactic
import Derived.ChangeAlike
import Derived.Laws.IdiomStrings
import Derived.Laws.Slices
import Derived.Deep.Draws
namespace Go.Proofs.Ytnfneaalkjnnfaa.Sums
open Go.ChangeShapes Go.WideShapes Go.ChangeAt Go.RowKit

/-- So many bytes lie at the head of block g, and may be written. -/
structure Bytes (w : World) (g : Nat) (l : List UInt8) : Prop where
  cell : ∀ i, i < l.length → w.cell? ⟨g, i, none⟩ = some (.int .u8 ((Plain.at8 l i : Nat) : Int))
  free : ∀ i, i < l.length → w.frozen? ⟨g, i, none⟩ = false
theorem Bytes.set {w : World} {g : Nat} {l : List UInt8} (h : Bytes w g l) (j : Nat) (hj : j < l.length) (v : UInt8) : Bytes (w.setCell ⟨g, j, none⟩ (.int .u8 ((v.toNat : Nat) : Int))) g (l.set j v) := by
  constructor
  · intro i hi
    rw [List.length_set] at hi
    unfold Plain.at8
    by_cases e : i = j
    · subst e
      rw [World.cell?_setCell_same _ _ _ (h.cell i hi), List.getD_eq_getElem?_getD, List.getElem?_set_self hi]
      rfl
    · rw [World.cell?_setCell_other _ _ _ _ (by intro c; exact e (by injection c with _ c2; exact c2.symm)), h.cell i hi, Plain.at8, List.getD_eq_getElem?_getD, List.getD_eq_getElem?_getD, List.getElem?_set_ne (fun c => e c.symm)]
  · intro i hi
    rw [List.length_set] at hi
    rw [World.frozen?_setCell]
    exact h.free i hi
theorem Bytes.drewN {w : World} {g : Nat} {l : List UInt8} (h : Bytes w g l) (n : Nat) : Bytes (w.drewN n) g l := ⟨h.cell, h.free⟩
theorem Bytes.back {w : World} {g L c : Nat} {l : List UInt8} (h : Bytes w g l) (hl : L = l.length) : (convert 25 9 (.slice (some ⟨g, 0, none⟩) L c)).run Try.prog w = .ok (.string ⟨l.toArray⟩) w := by
  rw [hl]
  refine run_convert_bytes_back w 25 9 5 ⟨g, 0, none⟩ c l Try.underlying25 Try.underlying5 Try.underlying9 ?_
  intro j hj
  rw [Addr.add_lit, Nat.zero_add, h.cell j hj, Plain.at8, List.getD_eq_getElem?_getD, List.getElem?_eq_getElem hj]
  rfl
theorem info5 : (Try.prog.info? 5).map (fun i => (i.zero, i.size, i.bytes)) = some (some (.int .u8 0), 1, 1) := by kernel_rfl
/-- So many zero bytes, as cells. -/
def zeros (n : Nat) : Array Value := madeCells (Value.cells (.int .u8 0)) n
theorem zeros_at (n i : Nat) (h : i < n) : (zeros n)[i]? = some (.int .u8 0) := by
  unfold zeros
  rw [← Array.getElem?_toList, show (Value.cells (.int .u8 0)) = #[.int .u8 0] from rfl, toList_madeCells_one, List.getElem?_replicate, if_pos h]
theorem Bytes.zeros (w : World) (n : Nat) : Bytes (w.alloc (.cells (zeros n) 5)) w.heap.size (List.replicate n 0) := by
  constructor
  · intro i hi
    rw [List.length_replicate] at hi
    rw [World.cell?_alloc_mark, zeros_at n i hi, Plain.at8, List.getD_eq_getElem?_getD, List.getElem?_replicate, if_pos hi]
    rfl
  · intro i _
    rw [World.frozen?_alloc_mark]
    simp
theorem make_bytes (n : Nat) (h : n ≤ 140737488351232) (w : World) :
    ∃ w1, (Instr.makeSlice 25 (.int .i64 (n : Int)) (.int .i64 (n : Int))).run Try.prog w = .ok (.slice (some ⟨w.heap.size, 0, none⟩) n n) w1 ∧ Bytes w1 w.heap.size (List.replicate n 0) ∧ Below w.heap.size w w1 := by
  obtain ⟨i, hi, hz0, hz1, hz2⟩ := info_parts info5
  have := run_make (P := Try.prog) w 25 5 i (.int .u8 0) Try.underlying25 hi hz0 .i64 .i64 n n (by omega) (Int.le_refl _) (by rw [hz2]; omega) (by omega)
  rw [hz1, Nat.mul_one, Int.toNat_natCast] at this
  exact ⟨_, this, Bytes.zeros w n, (Below.refl _ _).alloc (Nat.le_refl _) _⟩
theorem Bytes.fresh (w : World) (s : ByteArray) (cp : Nat) : Bytes (w.alloc (Obj.cells (bytesRow s cp) 5 ((bytesRow s cp).size, (bytesRow s cp).size + 1))).drew w.heap.size s.data.toList := by
  constructor
  · intro i hi
    have hi' : i < s.data.size := by simpa using hi
    show (w.alloc _).cell? _ = _
    rw [World.cell?_alloc_mark, bytesRow_at s cp i hi', Plain.at8, List.getD_eq_getElem?_getD, List.getElem?_eq_getElem hi]
    rfl
  · intro i hi
    have hi' : i < s.data.size := by simpa using hi
    show (w.alloc _).frozen? _ = _
    rw [World.frozen?_alloc_mark]
    have : s.data.size ≤ (bytesRow s cp).size := by simp [bytesRow]
    simp
    omega
theorem ofText (w : World) (s : ByteArray) : ∃ w1 cp, (convert 9 25 (.string s)).run Try.prog w = .ok (.slice (some ⟨w.heap.size, 0, none⟩) s.size cp) w1 ∧ Bytes w1 w.heap.size s.data.toList ∧ Below w.heap.size w w1 :=
  ⟨_, _, run_bytes_of_string (P := Try.prog) w 9 25 5 s Try.underlying9 Try.underlying25 Try.underlying5, Bytes.fresh w s (grownCap w s.size 0 5), ((Below.refl _ _).alloc (Nat.le_refl _) _).drew⟩

theorem byte_of (v : Nat) (h : v < 256) : (UInt8.ofNat v).toNat = v := by
  simp
  omega
theorem at_set (l : List UInt8) (j : Nat) (hj : j < l.length) (v i : Nat) (hv : v < 256) : Plain.at8 (l.set j (UInt8.ofNat v)) i = if i = j then v else Plain.at8 l i := by
  unfold Plain.at8
  rw [List.getD_eq_getElem?_getD, List.getD_eq_getElem?_getD]
  by_cases e : i = j
  · subst e
    rw [List.getElem?_set_self hj, if_pos rfl]
    simp
    omega
  · rw [List.getElem?_set_ne (fun c => e c.symm), if_neg e]
theorem xor8_lt {a b : Nat} (ha : a < 256) (hb : b < 256) : a ^^^ b < 256 := Nat.xor_lt_two_pow (n := 8) ha hb

/-- A text whose bytes from i on are turned by those of x, so many of them. -/
def flip (l : List UInt8) (i x : Nat) : Nat → List UInt8
  | 0 => l
  | k + 1 => (flip l i x k).set (i + k) (UInt8.ofNat (Plain.at8 (flip l i x k) (i + k) ^^^ (x / 256 ^ k % 256)))
theorem length_flip (l : List UInt8) (i x k : Nat) : (flip l i x k).length = l.length := by
  induction k with
  | zero => rfl
  | succ k ih => rw [flip, List.length_set, ih]
theorem at_flip (l : List UInt8) (i x k : Nat) (h : i + k ≤ l.length) (j : Nat) : Plain.at8 (flip l i x k) j = if i ≤ j ∧ j < i + k then Plain.at8 l j ^^^ (x / 256 ^ (j - i) % 256) else Plain.at8 l j := by
  induction k with
  | zero => rw [if_neg (by omega)]; rfl
  | succ k ih =>
    have ih := ih (by omega)
    rw [flip, at_set _ _ (by rw [length_flip]; omega) _ _ (xor8_lt (Plain.at8_lt _ _) (Nat.mod_lt _ (by decide)))]
    by_cases e : j = i + k
    · subst e
      rw [if_pos rfl, ih, if_neg (by omega), if_pos (by omega), show i + k - i = k from by omega]
    · rw [if_neg e, ih]
      by_cases c : i ≤ j ∧ j < i + k
      · rw [if_pos c, if_pos (by omega)]
      · rw [if_neg c, if_neg (by omega)]
theorem flip_told (l : List UInt8) (i x : Nat) (hx : x < 4294967296) (h0 : x ≠ 0) (h : i + 4 ≤ l.length) : Plain.crc l ≠ Plain.crc (flip l i x 4) := by
  apply Plain.crc_inj
  rw [length_flip]
  apply Plain.burst (Plain.at8 l) (Plain.at8 (flip l i x 4)) x i l.length hx h0 h
  · intro j hj
    rw [at_flip l i x 4 h, if_pos (by omega), show i + j - i = j from by omega]
  · intro j hj
    rw [at_flip l i x 4 h, if_neg (by omega)]

/-- So many bytes of three texts, turned by each other; behind them zeros. -/
def mix (a b c : List UInt8) (n : Nat) : Nat → List UInt8
  | 0 => List.replicate n 0
  | k + 1 => (mix a b c n k).set k (UInt8.ofNat (Plain.at8 a k ^^^ Plain.at8 b k ^^^ Plain.at8 c k))
theorem length_mix (a b c : List UInt8) (n k : Nat) : (mix a b c n k).length = n := by
  induction k with
  | zero => exact List.length_replicate
  | succ k ih => rw [mix, List.length_set, ih]
theorem at_mix (a b c : List UInt8) (n k : Nat) (h : k ≤ n) (j : Nat) (hj : j < k) : Plain.at8 (mix a b c n k) j = Plain.at8 a j ^^^ Plain.at8 b j ^^^ Plain.at8 c j := by
  induction k with
  | zero => omega
  | succ k ih =>
    rw [mix, at_set _ _ (by rw [length_mix]; omega) _ _ (xor8_lt (xor8_lt (Plain.at8_lt _ _) (Plain.at8_lt _ _)) (Plain.at8_lt _ _))]
    by_cases e : j = k
    · rw [if_pos e, e]
    · rw [if_neg e, ih (by omega) (by omega)]

theorem at_part (s : ByteArray) (n i : Nat) (hi : i < n) : Plain.at8 (s.extract 0 n).data.toList i = Plain.at8 s.data.toList i := by
  unfold Plain.at8
  rw [List.getD_eq_getElem?_getD, List.getD_eq_getElem?_getD]
  simp [hi]
theorem part (s : ByteArray) (n : Nat) (h : n ≤ s.size) : ∃ p : ByteArray, p.size = n ∧ Hid (∀ i, i < n → Plain.at8 p.data.toList i = Plain.at8 s.data.toList i) ∧
    ∀ w, (Instr.slice 9 (.string s) none (some (.int .i64 (n : Int))) none).run Try.prog w = .ok (.string p) w := by
  refine ⟨s.extract 0 n, by simp; omega, fun i hi => at_part s n i hi, fun w => ?_⟩
  have := run_slice_string_h (P := Try.prog) w 9 s Try.underlying9 .i64 (n : Int) (by omega) (by omega)
  rw [this, Int.toNat_natCast]

theorem sumH (s : ByteArray) (w : World) (hs : Hid (s.size ≤ 140737488355327)) :
    Calls Try.prog 7 #[.string s] w fun r w' => r = .returned (.int .i64 ((Plain.crc s.data.toList : Nat) : Int)) ∧ w' = w := sum s w hs.out
theorem xor_i64 (a b : Nat) (ha : a < 4294967296) (hb : b < 4294967296) : bits .xor .i64 (a : Int) (b : Int) = ((a ^^^ b : Nat) : Int) := by
  have hx := Plain.xor_lt ha hb
  unfold bits
  have e : (BitVec.ofInt IntKind.i64.bits (a : Int) ^^^ BitVec.ofInt IntKind.i64.bits (b : Int)).toNat = a ^^^ b := by
    rw [BitVec.toNat_xor, BitVec.toNat_ofInt, BitVec.toNat_ofInt]
    have e1 : ((a : Int) % ((2 ^ IntKind.i64.bits : Nat) : Int)).toNat = a := by
      rw [← Int.natCast_emod, Int.toNat_natCast]
      exact Nat.mod_eq_of_lt (by show _ < 2 ^ 64; omega)
    have e2 : ((b : Int) % ((2 ^ IntKind.i64.bits : Nat) : Int)).toNat = b := by
      rw [← Int.natCast_emod, Int.toNat_natCast]
      exact Nat.mod_eq_of_lt (by show _ < 2 ^ 64; omega)
    rw [e1, e2]
  simp only [e]
  rw [IntKind.wrap_i64]
  omega
theorem shr_byte (x k : Nat) : (x : Int) / 2 ^ (8 * k) % 256 = ((x / 256 ^ k % 256 : Nat) : Int) := by
  rw [show (256 : Nat) ^ k = 2 ^ (8 * k) from by rw [Nat.pow_mul]]
  simp
end Go.Proofs.Ytnfneaalkjnnfaa.Sums
