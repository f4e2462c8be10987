/-
  Several texts in one: Plain facts of bytes that ReadUnder asks for. · Plain facts of the law ReadUnder: a row of whole numbers, four bytes that say which are there.
-/
import Derived.Test.YtcpfhfdgfcilaaaGreatDoorR04
import Derived.Test.YtcpfhfdgfcilaaaGreatDoorR15
import Derived.Test.YtcpfhfdgfcilaaaGreatDoorR24
import Derived.Laws.OwnMore
namespace Go.Proofs.YtcpfhfdgfcilaaaGreatDoor.Plain
open Go.RowKit
theorem length_low (x n : Nat) : (low x n).length = n := by simp [low]
theorem low_at (x n i : Nat) (h : i < n) : ((low x n).getD i 0).toNat = x / 256 ^ i % 256 := by
  rw [List.getD_eq_getElem?_getD, List.getElem?_eq_getElem (by simpa [low] using h)]
  simp [low]
theorem val_low_le (x n k : Nat) (h : k ≤ n) : val (low x n) 0 k = x % 256 ^ k := by
  induction k with
  | zero => simp [val, Nat.mod_one]
  | succ k ih =>
    rw [val, ih (by omega), Nat.zero_add, low_at x n k (by omega), Nat.pow_succ, Nat.mod_mul, Nat.mul_comm (256 ^ k)]
theorem val_low (x n : Nat) : val (low x n) 0 n = x % 256 ^ n := val_low_le x n n (Nat.le_refl _)
theorem val_behind (p q : List UInt8) (x n : Nat) : val (p ++ (low x n ++ q)) p.length n = x % 256 ^ n := by
  rw [← val_low]
  refine val_congr _ _ _ _ _ fun i hi => ?_
  rw [getD_behind _ _ _ _ (by rw [length_low]; exact hi), Nat.zero_add]
/-- A byte of an int, moved down: its two's complement's. -/
theorem shr_byte (x : Int) (X k : Nat) (hX : IntKind.u64.wrap x = (X : Int)) (hk : k < 8) : x / 2 ^ (8 * k) % 256 = ((X / 256 ^ k : Nat) : Int) % 256 := by
  rw [IntKind.wrap_u64] at hX
  match k, hk with
  | 0, _ => simp; omega
  | 1, _ => simp; omega
  | 2, _ => simp; omega
  | 3, _ => simp; omega
  | 4, _ => simp; omega
  | 5, _ => simp; omega
  | 6, _ => simp; omega
  | 7, _ => simp; omega
end Go.Proofs.YtcpfhfdgfcilaaaGreatDoor.Plain
namespace Go.Proofs.YtcpfhfdgfcilaaaGreatDoor.Arr
open Go.ChangeShapes Go.WideShapes Go.ChangeAt Go.RowKit
open Tree Val
set_option linter.unusedSimpArgs false

/-- A number's eight bytes. -/
def uw64 (x : Int) : Nat := (x % 18446744073709551616).toNat
def b8 (x : Int) : List UInt8 := Plain.low (uw64 x) 8
def unD (X : Nat → Int) (m : Nat) : List UInt8 := (List.range m).flatMap fun j => b8 (X j)
theorem unD_succ (X : Nat → Int) (m : Nat) : unD X (m + 1) = unD X m ++ b8 (X m) := by
  unfold unD
  rw [List.range_succ, List.flatMap_append]
  simp
theorem length_unD (X : Nat → Int) (m : Nat) : (unD X m).length = 8 * m := by
  induction m with
  | zero => rfl
  | succ m ih => rw [unD_succ, List.length_append, ih, b8, Plain.length_low]; omega
theorem low_succ (x k : Nat) : Plain.low x (k + 1) = Plain.low x k ++ [UInt8.ofNat (x / 256 ^ k)] := by
  unfold Plain.low
  rw [List.range_succ, List.map_append]
  rfl
theorem u64_lt (x : Int) : uw64 x < 256 ^ 8 := by unfold uw64; omega
theorem val_unD (X : Nat → Int) (m j : Nat) (h : j < m) : Plain.val (unD X m) (8 * j) 8 = uw64 (X j) := by
  induction m with
  | zero => exact absurd h (Nat.not_lt_zero j)
  | succ m ih =>
    by_cases c : j = m
    · subst c
      have := Plain.val_behind (unD X j) [] (uw64 (X j)) 8
      rw [length_unD, List.append_nil] at this
      rw [unD_succ, b8, this, Nat.mod_eq_of_lt (u64_lt _)]
    · rw [← ih (by omega)]
      refine Plain.val_congr _ _ _ _ 8 fun i hi => ?_
      rw [unD_succ, List.getD_eq_getElem?_getD, List.getD_eq_getElem?_getD, List.getElem?_append_left (by rw [length_unD]; omega)]
theorem signed_u64 (x : Int) (h : in64 x) : signed (uw64 x) = x := by
  unfold signed uw64
  unfold in64 at h
  split <;> omega
def unN : List Nd := [⟨0, -1, true⟩]
def unA (v d : ByteArray) (m : Nat) : Arr := ⟨0, 0, m, v, ⟨#[]⟩, d, []⟩
theorem un_may (v d : ByteArray) (m : Nat) (hm : m ≤ 32) (hv : v.size = 4) (hd : d.size = 8 * m) : mayZ unN 0 1 (unA v d m) = true := by
  unfold mayZ
  rw [Bool.and_eq_true]
  refine ⟨by decide +kernel, ?_⟩
  unfold mayF
  rw [Bool.and_eq_true]
  constructor
  · unfold headB unA rowsOf
    simp only [Bool.and_eq_true, Bool.or_eq_true, decide_eq_true_eq]
    refine ⟨⟨⟨⟨⟨⟨by omega, by omega⟩, by omega⟩, by omega⟩, by decide⟩, by omega⟩, .inr ⟨rfl, by omega⟩⟩
  · unfold unA plainB rowsOf
    have : (nd unN (0 : Int).toNat).kind = 0 := rfl
    simp only [if_true, this]
    unfold bare
    simp only [Bool.and_eq_true, decide_eq_true_eq]
    exact ⟨⟨by decide, rfl⟩, by omega⟩
theorem un_row (X : Nat → Int) (v d : ByteArray) (m : Nat) (hv : v.size = 4) (hd : bl d = unD X m) (hX : ∀ j, j < m → BitP.bit (bl v) j = true → in64 (X j)) {j : Nat} (hj : j < m) : rowF unN 1 0 (unA v d m) j = if BitP.bit (bl v) j then intM (X j) else nullM := by
  have ht : there (unA v d m) (j + (unA v d m).offset.toNat) = BitP.bit (bl v) j := by
    show (decide (v.size = 0) || BitP.bit (bl v) (j + 0)) = _
    rw [decide_eq_false (by omega), Bool.false_or, Nat.add_zero]
  unfold rowF
  rw [ht]
  by_cases c : BitP.bit (bl v) j
  · rw [if_neg (by rw [c]; decide), if_pos c, if_pos (show (unA v d m).layout = 0 from rfl)]
    unfold plainRow
    have : (nd unN 0).kind = 0 := rfl
    rw [if_pos this]
    have e : (unA v d m).offset.toNat = 0 := rfl
    have e2 : bl (unA v d m).data = unD X m := hd
    rw [e, e2, Nat.add_zero, val_unD X m j hj, signed_u64 _ (hX j hj c)]
  · rw [if_pos (by simpa using c), if_neg c]
def unV (X : Nat → Int) (v : List UInt8) (m : Nat) : List ByteArray := told (fun j => if BitP.bit v j then intM (X j) else nullM) m
theorem un_vals (X : Nat → Int) (v d : ByteArray) (m : Nat) (hm : m ≤ 32) (hv : v.size = 4) (hd : bl d = unD X m) (hX : ∀ j, j < m → BitP.bit (bl v) j = true → in64 (X j)) : valsA unN 0 1 (unA v d m) = unV X (bl v) m ∧ valsE unN 0 1 (unA v d m) = 0 := by
  have hs : d.size = 8 * m := by rw [← length_unD X m, ← hd]; rfl
  have hM := un_may v d m hm hv hs
  unfold valsA valsE
  rw [if_pos hM, if_pos hM]
  refine ⟨?_, rfl⟩
  unfold unV told
  refine List.map_congr_left fun j hj => ?_
  have hj : j < m := List.mem_range.1 hj
  exact congrArg _ (un_row X v d m hv hd hX hj)
/-- What is beneath a row that is not there is nothing to what is read. -/
theorem unV_same (X Y : Nat → Int) (v : List UInt8) (m : Nat) (h : ∀ j, j < m → BitP.bit v j = true → X j = Y j) : unV X v m = unV Y v m := by
  unfold unV told
  refine List.map_congr_left fun j hj => ?_
  have hj : j < m := List.mem_range.1 hj
  show mk (if BitP.bit v j then intM (X j) else nullM) = mk (if BitP.bit v j then intM (Y j) else nullM)
  by_cases c : BitP.bit v j
  · rw [if_pos c, if_pos c, h j hj c]
  · rw [if_neg c, if_neg c]
theorem unV_succ (X : Nat → Int) (v : List UInt8) (m : Nat) : Texts.cellsT (unV X v (m + 1)) = Texts.cellsT (unV X v m) ++ [.string (mk (if BitP.bit v m then intM (X m) else nullM))] := by
  unfold unV
  rw [told_snoc]
  exact Texts.cellsT_snoc _ _
theorem length_unV (X : Nat → Int) (v : List UInt8) (m : Nat) : (unV X v m).length = m := by unfold unV; exact length_told _ _
/-- The four bytes of a number's lower bits. -/
def by8 (x : Int) (q : Nat) : UInt8 := UInt8.ofNat (x / 256 ^ q % 256).toNat
theorem by8_nat (x : Int) (q : Nat) : (((by8 x q).toNat : Nat) : Int) = x / 256 ^ q % 256 := by
  unfold by8
  rw [UInt8.toNat_ofNat']
  omega
def vby (x : Int) : List UInt8 := [by8 x 0, by8 x 1, by8 x 2, by8 x 3]
/-- The i-th of a number's bits. -/
def bitI (x : Int) (i : Nat) : Bool := decide (x / 2 ^ i % 2 = 1)
theorem bit_by8 (x : Int) (q r : Nat) (hr : r < 8) : (by8 x q).toNat.testBit r = bitI (x / 256 ^ q) r := by
  have h := by8_nat x q
  generalize x / 256 ^ q = y at *
  rw [Nat.testBit_eq_decide_div_mod_eq]
  unfold bitI
  have : ∀ n : Nat, (n : Int) = y % 256 → (decide (n / 2 ^ r % 2 = 1) = decide (y / 2 ^ r % 2 = 1)) := fun n hn => by
    refine decide_eq_decide.2 ?_
    match r, hr with
    | 0, _ => simp; omega
    | 1, _ => simp; omega
    | 2, _ => simp; omega
    | 3, _ => simp; omega
    | 4, _ => simp; omega
    | 5, _ => simp; omega
    | 6, _ => simp; omega
    | 7, _ => simp; omega
  exact this _ h
theorem bitI_by (x : Int) (q r : Nat) : bitI (x / 256 ^ q) r = bitI x (8 * q + r) := by
  unfold bitI
  rw [show (256 : Int) ^ q = 2 ^ (8 * q) from by rw [Int.pow_mul]; rfl, Int.pow_add, Int.ediv_ediv_of_nonneg (Int.pow_nonneg (by decide))]
theorem bit_vby (x : Int) (j : Nat) (hj : j < 32) : BitP.bit (vby x) j = bitI x j := by
  unfold BitP.bit vby
  have h : ∀ q, q < 4 → j / 8 = q → ([by8 x 0, by8 x 1, by8 x 2, by8 x 3].getD (j / 8) 0).toNat.testBit (j % 8) = bitI x j := fun q hq e => by
    have hb : [by8 x 0, by8 x 1, by8 x 2, by8 x 3].getD q 0 = by8 x q := by
      match q, hq with
      | 0, _ => rfl
      | 1, _ => rfl
      | 2, _ => rfl
      | 3, _ => rfl
    rw [e, hb, bit_by8 x q (j % 8) (Nat.mod_lt _ (by decide)), bitI_by]
    congr 1
    omega
  exact h (j / 8) (by omega) rfl
/-- The k-th of a number's eight bytes, as the program takes it. -/
theorem byte_k (x : Int) (k : Nat) (hk : k < 8) : IntKind.u8.wrap (x / 2 ^ (8 * k)) = (((UInt8.ofNat (uw64 x / 256 ^ k)).toNat : Nat) : Int) := by
  rw [UInt8.toNat_ofNat']
  have h := Plain.shr_byte x (uw64 x) k (by rw [IntKind.wrap_u64]; unfold uw64; omega) hk
  rw [show IntKind.u8.wrap (x / 2 ^ (8 * k)) = x / 2 ^ (8 * k) % 256 from rfl, h]
  omega
theorem byte_v (x : Int) (q : Nat) : IntKind.u8.wrap (x / 256 ^ q) = (((by8 x q).toNat : Nat) : Int) := by
  rw [by8_nat]
  rfl
/-- A box stays where its block stays. -/
theorem bx_low {w w' : World} {g B : Nat} {a : Arr} {o : Option Addr} {c : Nat} (h : Bx w g a o c) (hb : Below B w w') (hg : g < B) : Bx w' g a o c := ⟨(hb.block g hg).trans h.blk⟩
theorem bx_set5 {w : World} {g : Nat} {v d s : ByteArray} {m : Nat} (h : Bx w g (unA v d m) none 0) : Bx (w.setCell ⟨g, 5, none⟩ (.string s)) g (unA v s m) none 0 := ⟨by have := blk_set h.blk 5 (.string s); exact this⟩
theorem bx_set3 {w : World} {g : Nat} {v d s : ByteArray} {m : Nat} (h : Bx w g (unA v d m) none 0) : Bx (w.setCell ⟨g, 3, none⟩ (.string s)) g (unA s d m) none 0 := ⟨by have := blk_set h.blk 3 (.string s); exact this⟩
theorem bx_set2 {w : World} {g : Nat} {v d : ByteArray} {m : Nat} (h : Bx w g (unA v d m) none 0) : Bx (w.setCell ⟨g, 2, none⟩ (.int .i64 ((m : Int) + 1))) g (unA v d (m + 1)) none 0 := ⟨by have := blk_set h.blk 2 (.int .i64 ((m : Int) + 1)); exact this⟩
theorem bx_other {w : World} {g b j : Nat} {u : Value} {a : Arr} {o : Option Addr} {c : Nat} (h : Bx w g a o c) (hne : g ≠ b) : Bx (w.setCell ⟨b, j, none⟩ u) g a o c := ⟨(Below.heap_setCell w ⟨b, j, none⟩ u g hne).trans h.blk⟩
theorem one_drew (v : World) (b : UInt8) : (convert 42 9 (.slice (some ⟨v.heap.size, 0, none⟩) 1 1)).run Tryz.prog (v.alloc (.cells #[.int .u8 ((b.toNat : Nat) : Int)] 5)).drew = .ok (.string (mk [b])) (v.alloc (.cells #[.int .u8 ((b.toNat : Nat) : Int)] 5)).drew := by
  have h : (v.alloc (.cells #[.int .u8 ((b.toNat : Nat) : Int)] 5)).drew.ownsRow v.heap.size 5 1 (.slice (some ⟨v.heap.size, 0, none⟩) 1 1) 1 (bcells [b]) := own_byte v b
  exact bytes_back h (by decide)
theorem four_back (v : World) (b0 b1 b2 b3 : UInt8) : (convert 42 9 (.slice (some ⟨v.heap.size, 0, none⟩) 4 4)).run Tryz.prog (v.alloc (.cells #[.int .u8 ((b0.toNat : Nat) : Int), .int .u8 ((b1.toNat : Nat) : Int), .int .u8 ((b2.toNat : Nat) : Int), .int .u8 ((b3.toNat : Nat) : Int)] 5)) = .ok (.string (mk [b0, b1, b2, b3])) (v.alloc (.cells #[.int .u8 ((b0.toNat : Nat) : Int), .int .u8 ((b1.toNat : Nat) : Int), .int .u8 ((b2.toNat : Nat) : Int), .int .u8 ((b3.toNat : Nat) : Int)] 5)) := by
  have h : (v.alloc (.cells #[.int .u8 ((b0.toNat : Nat) : Int), .int .u8 ((b1.toNat : Nat) : Int), .int .u8 ((b2.toNat : Nat) : Int), .int .u8 ((b3.toNat : Nat) : Int)] 5)).ownsRow v.heap.size 5 1 (.slice (some ⟨v.heap.size, 0, none⟩) 4 4) 4 (bcells [b0, b1, b2, b3]) := World.ownsRow_lit v _ 4 (Nat.le_refl _) (by decide) rfl
  exact bytes_back h (by decide)
theorem rowU_later {w w' : World} {base n : Nat} {e : TypeId} {k : Nat} {v : Value} {xs : List Value} (h : w.ownsRow base e k v n xs) (hb : Below w.heap.size w w') : w'.ownsRow base e k v n xs := by
  refine ⟨h.1, h.2.imp id ?_⟩
  rintro ⟨g, cap, cur, e1, e2, e3, e4⟩
  exact ⟨g, cap, cur, e1, e2, (hb.block g (Array.getElem?_eq_some_iff.1 e3).1).trans e3, e4⟩
theorem sizeU (l : List UInt8) : (mk l).size = l.length := by
  show (l.toArray).size = l.length
  simp
theorem low0 (X : Nat → Int) (x : Int) (m : Nat) : mk (unD X m ++ Plain.low (uw64 x) 0) = mk (unD X m) := by
  rw [show Plain.low (uw64 x) 0 = [] from rfl, List.append_nil]
theorem low8 (X : Nat → Int) (x : Int) (m : Nat) (h : X m = x) : mk (unD X m ++ Plain.low (uw64 x) 8) = mk (unD X (m + 1)) := by
  rw [unD_succ, h]
  rfl
theorem size_low (X : Nat → Int) (x : Int) (m k : Nat) : (mk (unD X m ++ Plain.low (uw64 x) k)).size = 8 * m + k := by
  rw [sizeU, List.length_append, length_unD, Plain.length_low]
theorem low_next (X : Nat → Int) (x : Int) (m k : Nat) : mk (unD X m ++ Plain.low (uw64 x) k) ++ mk [UInt8.ofNat (uw64 x / 256 ^ k)] = mk (unD X m ++ Plain.low (uw64 x) (k + 1)) := by
  rw [low_succ, ← List.append_assoc]
  exact mk_app _ _
theorem un_ok (B : Nat) (hB : 4096 ≤ B) (v d : ByteArray) (m : Nat) (hm : m ≤ 32) (hv : v.size ≤ 4096) (hd : d.size ≤ 4096) : (unA v d m).ok B := ⟨rfl, rfl, by
  show (decide (IntKind.i64.min ≤ (m : Int)) && decide ((m : Int) ≤ IntKind.i64.max)) = true
  rw [show IntKind.i64.min = -9223372036854775808 from by decide, show IntKind.i64.max = 9223372036854775807 from by decide, Bool.and_eq_true, decide_eq_true_eq, decide_eq_true_eq]
  omega, Nat.le_trans hv hB, Nat.zero_le _, Nat.le_trans hd hB⟩
end Go.Proofs.YtcpfhfdgfcilaaaGreatDoor.Arr
