/-
  Several texts in one: Bits: contracts (carried). · Numbers in bytes: contracts (carried).
-/
import Derived.Test.YthbjeedmhgnnaaaGreatB03
import Derived.Test.YthbjeedmhgnnaaaGreatProg
import Derived.WalkKit
import Derived.ProofKit
import Derived.OpenShut
import Derived.Below
import Derived.Laws.IdiomStrings
import Derived.RegionTactic
import Derived.ChangeAlike
import Derived.OwnWalk
namespace Go.Proofs.YthbjeedmhgnnaaaGreat.Bit
open Go.ChangeShapes Go.WideShapes Go.ChangeAt Go.RowKit

theorem bel {a b c : World} (h : Below a.heap.size a b) (k : Below b.heap.size b c) : Below a.heap.size a c := h.trans (k.mono h.size)

theorem ret_bool {a b : Bool} (h : a = b) : Ending.returned (.bool a) = .returned (.bool b) := by rw [h]
theorem ret_u64 {a b : Int} (h : a = b) : Ending.returned (.int .u64 a) = .returned (.int .u64 b) := by rw [h]

theorem num (e : Int) (w : World) :
    Calls Tryz.prog 13 #[.int .i64 e] w fun r w' => r = .returned (.int .i64 e) ∧ w' = w := by
  go_enter Tryz.func13, Tryz.ntmps13
  go_wp2
  go_ret
  exact ⟨rfl, rfl⟩

theorem getD_at (s : ByteArray) (j : Nat) (h : j < s.size) : s.data.toList.getD j 0 = s[j] := by
  have h' : j < s.data.toList.length := by simpa using h
  rw [List.getD_eq_getElem?_getD, List.getElem?_eq_getElem h']
  rfl

set_option maxHeartbeats 400000 in
theorem isOn (s : ByteArray) (x : Int) (h0 : 0 ≤ x) (h : x < 8 * (s.size : Int)) (w : World) :
    Calls Tryz.prog 113 #[.string s, .int .u64 x] w fun r w' => r = .returned (.bool (BitP.bit s.data.toList x.toNat)) ∧ w' = w := by
  obtain ⟨n, rfl⟩ := Int.eq_ofNat_of_zero_le h0
  rw [Int.toNat_natCast]
  have h : n / 8 < s.size := by omega
  have hm : bits BinOp.and IntKind.u64 (↑n) 7 = ((n % 8 : Nat) : Int) := BitP.and7 n
  have hr : n % 8 < 8 := Nat.mod_lt _ (by decide)
  have hb : s[n / 8].toNat < 256 := BitP.byte_lt _
  have HE : Hid (BitP.bit s.data.toList n = s[n / 8].toNat.testBit (n % 8)) := by unfold BitP.bit; rw [getD_at s _ h]; rfl
  generalize n % 8 = r at *
  go_enter Tryz.func113, Tryz.ntmps113
  go_wp2
  go_ret
  exact ⟨ret_bool (by rw [HE.out]; exact BitP.and1 _ _ hb hr), rfl⟩

set_option maxHeartbeats 400000 in
theorem size (x : Int) (w : World) (h0 : 0 ≤ x) (h : x ≤ 18446744073709551614) :
    Calls Tryz.prog 118 #[.int .u64 x] w fun r w' => r = .returned (.int .u64 ((x + 7) / 8)) ∧ w' = w := by
  obtain ⟨n, rfl⟩ := Int.eq_ofNat_of_zero_le h0
  have hm : bits BinOp.and IntKind.u64 (↑n) 7 = ((n % 8 : Nat) : Int) := BitP.and7 n
  by_cases hz : n % 8 = 0
  · have hz' : bits BinOp.and IntKind.u64 (↑n) 7 = 0 := by rw [hm, hz]; rfl
    have HZ : Hid (n % 8 = 0) := hz
    clear hm hz
    go_enter Tryz.func118, Tryz.ntmps118
    go_wp2
    go_ret
    exact ⟨ret_u64 (by have := HZ.out; omega), rfl⟩
  · have hz' : (bits BinOp.and IntKind.u64 (↑n) 7 == 0) = false := by rw [hm]; simp; omega
    have hw : IntKind.u64.wrap (((n : Int) / 8) + 1) = (n : Int) / 8 + 1 := by rw [IntKind.wrap_u64]; omega
    have HZ : Hid (¬ n % 8 = 0) := hz
    clear hm hz
    go_enter Tryz.func118, Tryz.ntmps118
    go_wp2
    go_ret
    exact ⟨ret_u64 (by have := HZ.out; omega), rfl⟩

/-- Has a text of so many bytes c bits from a on? -/
def hasB (len : Nat) (a c : Int) : Bool := decide (0 ≤ a ∧ 0 ≤ c ∧ a + c ≤ 8 * (len : Int))
theorem hasB_yes {len : Nat} {a c : Int} (h0 : 0 ≤ a) (h1 : 0 ≤ c) (h2 : a + c ≤ 8 * (len : Int)) : hasB len a c = true := decide_eq_true ⟨h0, h1, h2⟩
theorem hasB_no {len : Nat} {a c : Int} (h : ¬ (0 ≤ a ∧ 0 ≤ c ∧ a + c ≤ 8 * (len : Int))) : hasB len a c = false := decide_eq_false h

set_option maxHeartbeats 400000 in
theorem has (s : ByteArray) (a c : Int) (w : World) (hs : s.size ≤ 140737488351232) (ha : a ≤ 9223372036854775807) (hc : c ≤ 9223372036854775807) :
    Calls Tryz.prog 109 #[.string s, .int .i64 a, .int .i64 c] w fun r w' => r = .returned (.bool (hasB s.size a c)) ∧ w' = w := by
  by_cases h0 : 0 ≤ a
  · by_cases h1 : 0 ≤ c
    · by_cases h2 : a + c ≤ 8 * (s.size : Int)
      · rw [hasB_yes h0 h1 h2]
        have h3 : (a + c + 7) / 8 ≤ (s.size : Int) := by omega
        go_enter Tryz.func109, Tryz.ntmps109
        go_wp2_with fail
        refine (size _ _ (by omega) (by omega)).mono ?_
        rintro e w' ⟨rfl, rfl⟩
        go_wp2
        go_ret
        exact ⟨rfl, rfl⟩
      · rw [hasB_no (by omega)]
        have h3 : ¬ (a + c + 7) / 8 ≤ (s.size : Int) := by omega
        go_enter Tryz.func109, Tryz.ntmps109
        go_wp2_with fail
        refine (size _ _ (by omega) (by omega)).mono ?_
        rintro e w' ⟨rfl, rfl⟩
        go_wp2
        go_ret
        exact ⟨ret_bool (decide_eq_false (by omega)), rfl⟩
    · rw [hasB_no (by omega)]
      go_enter Tryz.func109, Tryz.ntmps109
      go_wp2
      go_ret
      exact ⟨rfl, rfl⟩
  · rw [hasB_no (by omega)]
    go_enter Tryz.func109, Tryz.ntmps109
    go_wp2
    go_ret
    exact ⟨rfl, rfl⟩

set_option maxHeartbeats 400000 in
theorem get_yes (s : ByteArray) (a : Int) (w : World) (hs : s.size ≤ 140737488351232) (h0 : 0 ≤ a) (h1 : a < 8 * (s.size : Int)) :
    Calls Tryz.prog 98 #[.string s, .int .i64 a] w fun r w' => r = .returned (.tuple #[.bool (BitP.bit s.data.toList a.toNat), .int .i64 0]) ∧ w' = w := by
  have hh : hasB s.size a 1 = true := hasB_yes h0 (by decide) (by omega)
  go_enter Tryz.func98, Tryz.ntmps98
  go_wp2_with fail
  refine (has _ _ _ _ hs (by omega) (by decide)).mono ?_
  rintro e w' ⟨rfl, rfl⟩
  rw [hh]
  go_wp2_with fail
  refine (isOn _ _ h0 h1 _).mono ?_
  rintro e w' ⟨rfl, rfl⟩
  go_wp2
  go_ret2
  exact ⟨rfl, rfl⟩
set_option maxHeartbeats 400000 in
theorem get_no (s : ByteArray) (a : Int) (w : World) (hs : s.size ≤ 140737488351232) (ha : a ≤ 9223372036854775807) (h : a < 0 ∨ 8 * (s.size : Int) ≤ a) :
    Calls Tryz.prog 98 #[.string s, .int .i64 a] w fun r w' => r = .returned (.tuple #[.bool false, .int .i64 200]) ∧ w' = w := by
  have hh : hasB s.size a 1 = false := hasB_no (by omega)
  go_enter Tryz.func98, Tryz.ntmps98
  go_wp2_with fail
  refine (has _ _ _ _ hs ha (by decide)).mono ?_
  rintro e w' ⟨rfl, rfl⟩
  rw [hh]
  go_wp2
  go_ret2
  exact ⟨rfl, rfl⟩

end Go.Proofs.YthbjeedmhgnnaaaGreat.Bit
namespace Go.Proofs.YthbjeedmhgnnaaaGreat.Bit
open Go.ChangeShapes Go.WideShapes Go.ChangeAt Go.RowKit

/-- So many bytes lie at the head of block g, and may be written. -/
structure Bytes (w : World) (g : Nat) (l : List UInt8) : Prop where
  cell : ∀ i, i < l.length → w.cell? ⟨g, i, none⟩ = some (.int .u8 (((l.getD i 0).toNat : Nat) : Int))
  free : ∀ i, i < l.length → w.frozen? ⟨g, i, none⟩ = false
theorem Bytes.set {w : World} {g : Nat} {l : List UInt8} (h : Bytes w g l) (j : Nat) (hj : j < l.length) (v : UInt8) : Bytes (w.setCell ⟨g, j, none⟩ (.int .u8 ((v.toNat : Nat) : Int))) g (l.set j v) := by
  constructor
  · intro i hi
    rw [List.length_set] at hi
    by_cases e : i = j
    · subst e
      rw [World.cell?_setCell_same _ _ _ (h.cell i hi), List.getD_eq_getElem?_getD, List.getElem?_set_self hi]
      rfl
    · rw [World.cell?_setCell_other _ _ _ _ (by intro c; exact e (by injection c with _ c2; exact c2.symm)), h.cell i hi, List.getD_eq_getElem?_getD, List.getD_eq_getElem?_getD, List.getElem?_set_ne (fun c => e c.symm)]
  · intro i hi
    rw [List.length_set] at hi
    rw [World.frozen?_setCell]
    exact h.free i hi
theorem Bytes.below {w w' : World} {g B : Nat} {l : List UInt8} (h : Bytes w g l) (b : Below B w w') (hg : g < B) : Bytes w' g l :=
  ⟨fun i hi => by rw [b.cell (p := ⟨g, i, none⟩) hg]; exact h.cell i hi, fun i hi => by rw [b.frozen (p := ⟨g, i, none⟩) hg]; exact h.free i hi⟩

set_option maxHeartbeats 800000 in
theorem each (F : Nat) (hF : F = 111) (b : Nat) (I : Nat → World → Prop) (s : ByteArray) (a c : Int) (w : World) (hs : s.size ≤ 140737488351232) (h0 : 0 ≤ a) (h1 : 0 ≤ c) (h2 : a + c ≤ 8 * (s.size : Int))
    (hI : I 0 w) (hstep : Hid (∀ (k : Nat) (w : World), (k : Int) < c → I k w → Calls Tryz.prog F #[.int .u64 (k : Int), .bool (BitP.bit s.data.toList (a.toNat + k)), .pointer (some ⟨b, 0, none⟩)] w fun r w' => r = .returned (.tuple #[]) ∧ I (k + 1) w')) :
    Calls Tryz.prog 110 #[.string s, .int .u64 a, .int .u64 c, .func (.func F) #[] #[.pointer (some ⟨b, 0, none⟩)]] w fun r w' => r = .returned (.tuple #[]) ∧ I c.toNat w' := by
  subst hF
  all_goals
    go_enter Tryz.func110, Tryz.ntmps110
    go_wp2_with fail
    go_loopw [10] (fun i wr => ∃ k : Nat, (k : Int) ≤ c ∧ i = .int .u64 k ∧ I k wr) (fun i _ => c.toNat - (intOf i).toNat)
    case atStart => exact ⟨0, h1, rfl, hI⟩
    case round =>
      obtain ⟨k, hk, rfl, hik⟩ := hrel
      by_cases hlt : (k : Int) < c
      · go_wp2_with fail
        refine (isOn _ _ (by omega) (by omega) _).mono ?_
        rintro e w' ⟨rfl, rfl⟩
        rw [show (a + (k : Int)).toNat = a.toNat + k from by omega]
        go_wp2_with fail
        refine (hstep.out k _ hlt hik).mono ?_
        rintro e w' ⟨rfl, hik'⟩
        go_wp2
        go_roundw
        case rel => exact ⟨k + 1, by omega, by go_num, hik'⟩
        case measure => simp [intOf]; omega
      · have hck : c.toNat = k := by omega
        have HC : Hid (c.toNat = k) := hck
        clear hck
        go_wp2
        go_end0
        exact ⟨rfl, by rw [HC.out]; exact hik⟩


theorem Bytes.back {w : World} {g L c : Nat} {l : List UInt8} (h : Bytes w g l) (hl : L = l.length) : (convert 37 9 (.slice (some ⟨g, 0, none⟩) L c)).run Tryz.prog w = .ok (.string ⟨l.toArray⟩) w := by
  rw [hl]
  refine run_convert_bytes_back w 37 9 5 ⟨g, 0, none⟩ c l Tryz.underlying37 Tryz.underlying5 Tryz.underlying9 ?_
  intro j hj
  rw [Addr.add_lit, Nat.zero_add, h.cell j hj, List.getD_eq_getElem?_getD, List.getElem?_eq_getElem hj]
  rfl
set_option maxHeartbeats 400000 in
theorem count1 (b : Nat) (x : Int) (on : Bool) (z : Int) (w : World) (hz0 : 0 ≤ z) (hz : z < 9223372036854775807) (hc : w.cell? ⟨b, 0, none⟩ = some (.int .i64 z)) (hf : w.frozen? ⟨b, 0, none⟩ = false) :
    Calls Tryz.prog 111 #[.int .u64 x, .bool on, .pointer (some ⟨b, 0, none⟩)] w fun r w' => r = .returned (.tuple #[]) ∧
      w' = if on then w.setCell ⟨b, 0, none⟩ (.int .i64 (z + 1)) else w := by
  cases on
  · go_enter Tryz.func111, Tryz.ntmps111
    go_wp2
    go_end0
    exact ⟨rfl, rfl⟩
  · go_enter Tryz.func111, Tryz.ntmps111
    go_wp2
    go_end0
    exact ⟨rfl, rfl⟩

set_option maxHeartbeats 400000 in
theorem count_yes (s : ByteArray) (a c : Int) (w : World) (hs : s.size ≤ 140737488351232) (h0 : 0 ≤ a) (h1 : 0 ≤ c) (h2 : a + c ≤ 8 * (s.size : Int)) :
    Calls Tryz.prog 93 #[.string s, .int .i64 a, .int .i64 c] w fun r w' => r = .returned (.tuple #[.int .i64 ((BitP.cnt s.data.toList a.toNat c.toNat : Nat) : Int), .int .i64 0]) ∧ Below w.heap.size w w' := by
  have hh : hasB s.size a c = true := hasB_yes h0 h1 h2
  go_enter Tryz.func93, Tryz.ntmps93
  go_wp2_with fail
  refine (has _ _ _ _ hs (by omega) (by omega)).mono ?_
  rintro e w' ⟨rfl, rfl⟩
  rw [hh]
  go_wp2_with fail
  refine (each 111 rfl w'.heap.size (fun k v => v.cell? ⟨w'.heap.size, 0, none⟩ = some (.int .i64 ((BitP.cnt s.data.toList a.toNat k : Nat) : Int)) ∧ v.frozen? ⟨w'.heap.size, 0, none⟩ = false ∧ Below w'.heap.size w' v) s a c _ hs h0 h1 h2 ?_ ?_).mono ?_
  · refine ⟨by simp [BitP.cnt], by simp, (Below.refl _ _).alloc (Nat.le_refl _) _⟩
  · intro k v hk ⟨hc, hf, hb⟩
    have hle := BitP.cnt_le s.data.toList a.toNat k
    refine (count1 _ _ _ _ _ (by omega) (by omega) hc hf).mono ?_
    rintro e v' ⟨rfl, hv⟩
    refine ⟨rfl, ?_⟩
    rw [BitP.cnt]
    cases hbit : BitP.bit s.data.toList (a.toNat + k)
    · rw [hbit] at hv
      simp only [Bool.false_eq_true, if_false] at hv
      subst hv
      exact ⟨by simpa using hc, hf, hb⟩
    · rw [hbit] at hv
      simp only [if_true] at hv
      subst hv
      refine ⟨?_, ?_, hb.setCell (Nat.le_refl _) _⟩
      · rw [World.cell?_setCell_same _ _ _ hc]; simp
      · rw [World.frozen?_setCell]; exact hf
  · rintro e v ⟨rfl, hc, hf, hb⟩
    go_wp2
    go_ret2
    exact ⟨rfl, hb⟩
set_option maxHeartbeats 400000 in
theorem count_no (s : ByteArray) (a c : Int) (w : World) (hs : s.size ≤ 140737488351232) (ha : a ≤ 9223372036854775807) (hc : c ≤ 9223372036854775807) (h : ¬ (0 ≤ a ∧ 0 ≤ c ∧ a + c ≤ 8 * (s.size : Int))) :
    Calls Tryz.prog 93 #[.string s, .int .i64 a, .int .i64 c] w fun r w' => r = .returned (.tuple #[.int .i64 0, .int .i64 200]) ∧ w' = w := by
  have hh : hasB s.size a c = false := hasB_no h
  clear h
  go_enter Tryz.func93, Tryz.ntmps93
  go_wp2_with fail
  refine (has _ _ _ _ hs ha hc).mono ?_
  rintro e w' ⟨rfl, rfl⟩
  rw [hh]
  go_wp2
  go_ret2
  exact ⟨rfl, rfl⟩
end Go.Proofs.YthbjeedmhgnnaaaGreat.Bit
namespace Go.Proofs.YthbjeedmhgnnaaaGreat.Bit
open Go.ChangeShapes Go.WideShapes Go.ChangeAt Go.RowKit

theorem info5 : (Tryz.prog.info? 5).map (fun i => (i.zero, i.size, i.bytes)) = some (some (.int .u8 0), 1, 1) := by kernel_rfl

/-- So many zero bytes, as cells. -/
def zeros (n : Nat) : Array Value := madeCells (Value.cells (.int .u8 0)) n
theorem zeros_at (n i : Nat) (h : i < n) : (zeros n)[i]? = some (.int .u8 0) := by
  unfold zeros
  rw [← Array.getElem?_toList, show (Value.cells (.int .u8 0)) = #[.int .u8 0] from rfl, toList_madeCells_one, List.getElem?_replicate, if_pos h]
theorem make_bytes (n : Nat) (h : n ≤ 140737488351232) (w : World) :
    (Instr.makeSlice 37 (.int .u64 (n : Int)) (.int .u64 (n : Int))).run Tryz.prog w = .ok (.slice (some ⟨w.heap.size, 0, none⟩) n n) (w.alloc (.cells (zeros n) 5)) := by
  obtain ⟨i, hi, hz0, hz1, hz2⟩ := info_parts info5
  have := run_make (P := Tryz.prog) w 37 5 i (.int .u8 0) Tryz.underlying37 hi hz0 .u64 .u64 n n (by omega) (Int.le_refl _) (by rw [hz2]; omega) (by omega)
  rw [this, hz1, Nat.mul_one, Int.toNat_natCast]
  rfl
theorem Bytes.zeros (w : World) (n : Nat) : Bytes (w.alloc (.cells (zeros n) 5)) w.heap.size (List.replicate n 0) := by
  constructor
  · intro i hi
    rw [List.length_replicate] at hi
    rw [World.cell?_alloc_mark, zeros_at n i hi, List.getD_eq_getElem?_getD, List.getElem?_replicate, if_pos hi]
    rfl
  · intro i _
    rw [World.frozen?_alloc_mark]
    simp

end Go.Proofs.YthbjeedmhgnnaaaGreat.Bit
namespace Go.Proofs.YthbjeedmhgnnaaaGreat.Bit
open Go.ChangeShapes Go.WideShapes Go.ChangeAt Go.RowKit

set_option maxHeartbeats 400000 in
theorem refBit (s : ByteArray) (x : Int) (hs : s.size ≤ 140737488351232) (h0 : 0 ≤ x) (h : x < 8 * (s.size : Int)) (w : World) :
    Calls Tryz.prog 79 #[.string s, .int .i64 x] w fun r w' => r = .returned (.bool (BitP.bit s.data.toList x.toNat)) ∧ w' = w := by
  obtain ⟨n, rfl⟩ := Int.eq_ofNat_of_zero_le h0
  rw [Int.toNat_natCast]
  have h : n / 8 < s.size := by omega
  have hm : (n : Int) % 8 = ((n % 8 : Nat) : Int) := by omega
  have hr : n % 8 < 8 := Nat.mod_lt _ (by decide)
  have hb : s[n / 8].toNat < 256 := BitP.byte_lt _
  have HE : Hid (BitP.bit s.data.toList n = s[n / 8].toNat.testBit (n % 8)) := by unfold BitP.bit; rw [getD_at s _ h]; rfl
  generalize n % 8 = r at *
  go_enter Tryz.func79, Tryz.ntmps79
  go_wp2
  go_ret
  exact ⟨ret_bool (by rw [HE.out]; exact BitP.and1 _ _ hb hr), rfl⟩

end Go.Proofs.YthbjeedmhgnnaaaGreat.Bit
namespace Go.Proofs.YthbjeedmhgnnaaaGreat.Bit
open Go.ChangeShapes Go.WideShapes Go.ChangeAt Go.RowKit

/-- The first k of some truths, as bits of so many bytes as hold them all. -/
def ofTo (bs : List Bool) : Nat → List UInt8
  | 0 => List.replicate ((bs.length + 7) / 8) 0
  | k + 1 => if bs.getD k false then BitP.setB (ofTo bs k) k true else ofTo bs k
theorem length_ofTo (bs : List Bool) (k : Nat) : (ofTo bs k).length = (bs.length + 7) / 8 := by
  induction k with
  | zero => simp [ofTo]
  | succ k ih => rw [ofTo]; split <;> simp [BitP.length_setB, ih]
theorem make_bytes' (n : Nat) (h : n ≤ 140737488351232) (w : World) :
    (Instr.makeSlice 37 (.int .i64 (n : Int)) (.int .i64 (n : Int))).run Tryz.prog w = .ok (.slice (some ⟨w.heap.size, 0, none⟩) n n) (w.alloc (.cells (zeros n) 5)) := by
  obtain ⟨i, hi, hz0, hz1, hz2⟩ := info_parts info5
  have := run_make (P := Tryz.prog) w 37 5 i (.int .u8 0) Tryz.underlying37 hi hz0 .i64 .i64 n n (by omega) (Int.le_refl _) (by rw [hz2]; omega) (by omega)
  rw [this, hz1, Nat.mul_one, Int.toNat_natCast]
  rfl

set_option maxHeartbeats 400000 in
theorem bitBytes (x : Int) (w : World) (h0 : 0 ≤ x) (h : x ≤ 140737488351232) :
    Calls Tryz.prog 43 #[.int .i64 x] w fun r w' => r = .returned (.int .i64 ((x + 7) / 8)) ∧ w' = w := by
  go_enter Tryz.func43, Tryz.ntmps43
  go_wp2
  go_ret
  exact ⟨rfl, rfl⟩

set_option maxHeartbeats 400000 in
theorem bitsOf (gx cap : Nat) (bs : List Bool) (w : World) (hn : bs.length ≤ 16777216) (hg : gx < w.heap.size)
    (hx : ∀ i, i < bs.length → w.cell? ⟨gx, i, none⟩ = some (.bool (bs.getD i false))) :
    Calls Tryz.prog 55 #[.slice (some ⟨gx, 0, none⟩) bs.length cap] w fun r w' => r = .returned (.string ⟨(ofTo bs bs.length).toArray⟩) ∧ Below w.heap.size w w' := by
  have HX : Hid (∀ i, i < bs.length → w.cell? ⟨gx, i, none⟩ = some (.bool (bs.getD i false))) := hx
  clear hx
  obtain ⟨q, hq⟩ : ∃ q : Nat, q = (bs.length + 7) / 8 := ⟨_, rfl⟩
  have HQ : Hid (q = (bs.length + 7) / 8) := hq
  have hmk := make_bytes' q (by omega)
  clear hq
  go_enter Tryz.func55, Tryz.ntmps55
  go_wp2_with fail
  refine (bitBytes _ _ (by omega) (by omega)).mono ?_
  rintro e w' ⟨rfl, rfl⟩
  rw [show ((bs.length : Int) + 7) / 8 = (q : Int) from by have := HQ.out; omega]
  go_wp2_with fail
  go_loopw [4] (fun i wr => ∃ k : Nat, k ≤ bs.length ∧ i = .int .i64 k ∧ Bytes wr w'.heap.size (ofTo bs k) ∧ Below w'.heap.size w' wr) (fun i _ => bs.length - (intOf i).toNat)
  case atStart =>
    refine ⟨0, by omega, rfl, ?_, (Below.refl _ _).alloc (Nat.le_refl _) _⟩
    have hz := Bytes.zeros w' q
    rw [HQ.out] at hz ⊢
    exact hz
  case round =>
    obtain ⟨k, hk, rfl, hb, hbl⟩ := hrel
    have HB : Hid (Bytes wr w'.heap.size (ofTo bs k)) := hb
    clear hb
    have hlen := length_ofTo bs k
    have HL : Hid ((ofTo bs k).length = (bs.length + 7) / 8) := hlen
    clear hlen
    by_cases hlt : k < bs.length
    · have hck : wr.cell? ⟨gx, k, none⟩ = some (.bool (bs.getD k false)) := (hbl.cell (p := ⟨gx, k, none⟩) hg).trans (HX.out k hlt)
      have HS : Hid (ofTo bs (k + 1) = if bs.getD k false then BitP.setB (ofTo bs k) k true else ofTo bs k) := rfl
      cases hbit : bs.getD k false
      · rw [hbit] at hck HS
        clear hbit
        go_wp2
        go_roundw
        case rel => exact ⟨k + 1, by omega, by go_num, by rw [HS.out]; exact HB.out, hbl⟩
        case measure => simp [intOf]; omega
      · rw [hbit] at hck HS
        clear hbit
        have hql : k / 8 < q := by have := HQ.out; omega
        have hc := HB.out.cell (k / 8) (by rw [HL.out, ← HQ.out]; exact hql)
        have hf := HB.out.free (k / 8) (by rw [HL.out, ← HQ.out]; exact hql)
        have hm : (k : Int) % 8 = ((k % 8 : Nat) : Int) := by omega
        have hr : k % 8 < 8 := Nat.mod_lt _ (by decide)
        have hx : ((ofTo bs k).getD (k / 8) 0).toNat < 256 := BitP.byte_lt _
        have hb2 : Bytes (wr.setCell ⟨w'.heap.size, k / 8, none⟩ (.int .u8 ((BitP.turn ((ofTo bs k).getD (k / 8) 0).toNat (k % 8) true : Nat) : Int))) w'.heap.size (ofTo bs (k + 1)) := by
          have := HB.out.set (k / 8) (by rw [HL.out, ← HQ.out]; exact hql) (UInt8.ofNat (BitP.turn ((ofTo bs k).getD (k / 8) 0).toNat (k % 8) true))
          rw [BitP.setB_byte] at this
          rw [HS.out]
          exact this
        have HB2 : Hid (Bytes (wr.setCell ⟨w'.heap.size, k / 8, none⟩ (.int .u8 ((BitP.turn ((ofTo bs k).getD (k / 8) 0).toNat (k % 8) true : Nat) : Int))) w'.heap.size (ofTo bs (k + 1))) := hb2
        clear hb2 HS
        generalize ((ofTo bs k).getD (k / 8) 0).toNat = x at *
        generalize k % 8 = r at *
        have ht : bits BinOp.or IntKind.u8 (↑x) (2 ^ r % 256) = _ := BitP.or_byte x r hx hr
        have i0 : (0 : Int) ≤ (k : Int) / 8 := by omega
        have i1 : (k : Int) / 8 < (q : Int) := by omega
        go_wp2
        go_region
        go_wp2
        go_roundw
        case rel => exact ⟨k + 1, by omega, by go_num, ⟨HB2.out.cell, HB2.out.free⟩, (hbl.setCell (p := ⟨w'.heap.size, k / 8, none⟩) (Nat.le_refl _) _).drew⟩
        case measure => simp [intOf]; omega
    · have HK : Hid (k = bs.length) := by unfold Hid; omega
      have hbk := HB.out.back (L := q) (c := q) (by rw [HL.out]; exact HQ.out)
      rw [show ofTo bs k = ofTo bs bs.length from by rw [HK.out]] at hbk
      go_wp2
      go_ret
      exact ⟨rfl, hbl⟩

theorem info4 : (Tryz.prog.info? 4).map (fun i => (i.zero, i.size, i.bytes)) = some (some (.bool false), 1, 1) := by kernel_rfl
theorem ret_str {a b : List UInt8} {y : Value} (h : a = b) : Ending.returned (.tuple #[.string ⟨a.toArray⟩, y]) = .returned (.tuple #[.string ⟨b.toArray⟩, y]) := by rw [h]
end Go.Proofs.YthbjeedmhgnnaaaGreat.Bit
namespace Go.Proofs.YthbjeedmhgnnaaaGreat.Fix
open Go.ChangeShapes Go.WideShapes Go.ChangeAt Go.RowKit

theorem bel {a b c : World} (h : Below a.heap.size a b) (k : Below b.heap.size b c) : Below a.heap.size a c := h.trans (k.mono h.size)
theorem ret_bool {a b : Bool} (h : a = b) : Ending.returned (.bool a) = .returned (.bool b) := by rw [h]
theorem num (e : Int) (w : World) :
    Calls Tryz.prog 13 #[.int .i64 e] w fun r w' => r = .returned (.int .i64 e) ∧ w' = w := by
  go_enter Tryz.func13, Tryz.ntmps13
  go_wp2
  go_ret
  exact ⟨rfl, rfl⟩

/-- May a number be laid down in so many bytes? -/
def sizeB (n : Int) : Bool := decide (n = 4 ∨ n = 8)
theorem isSize (x : Int) (w : World) :
    Calls Tryz.prog 121 #[.int .i64 x] w fun r w' => r = .returned (.bool (sizeB x)) ∧ w' = w := by
  by_cases h : x = 4
  · subst h
    rw [show sizeB 4 = true from by decide]
    go_enter Tryz.func121, Tryz.ntmps121
    go_wp2
    go_ret
    exact ⟨rfl, rfl⟩
  · by_cases h8 : x = 8
    · subst h8
      rw [show sizeB 8 = true from by decide]
      go_enter Tryz.func121, Tryz.ntmps121
      go_wp2
      go_ret
      exact ⟨rfl, rfl⟩
    · rw [show sizeB x = false from decide_eq_false (by omega)]
      go_enter Tryz.func121, Tryz.ntmps121
      go_wp2
      go_ret
      exact ⟨ret_bool (by simp [h, h8]), rfl⟩
/-- Is it from 0 to Most? -/
def shortB (x : Int) : Bool := decide (0 ≤ x ∧ x ≤ 2147483647)
/-- How many bytes there are from a on. -/
def roomI (len : Nat) (a : Int) : Int := if 0 ≤ a ∧ a ≤ (len : Int) then (len : Int) - a else 0
theorem room (s : ByteArray) (a : Int) (w : World) (hs : s.size ≤ 140737488355327) :
    Calls Tryz.prog 122 #[.string s, .int .i64 a] w fun r w' => r = .returned (.int .i64 (roomI s.size a)) ∧ w' = w := by
  by_cases h : 0 ≤ a
  · by_cases h2 : a ≤ (s.size : Int)
    · rw [show roomI s.size a = (s.size : Int) - a from if_pos ⟨h, h2⟩]
      go_enter Tryz.func122, Tryz.ntmps122
      go_wp2
      go_ret
      exact ⟨rfl, rfl⟩
    · rw [show roomI s.size a = 0 from if_neg (by omega)]
      go_enter Tryz.func122, Tryz.ntmps122
      go_wp2
      go_ret
      exact ⟨rfl, rfl⟩
  · rw [show roomI s.size a = 0 from if_neg (by omega)]
    go_enter Tryz.func122, Tryz.ntmps122
    go_wp2
    go_ret
    exact ⟨rfl, rfl⟩

/-- So many bytes lie at the head of block g, and may be written. -/
structure Bytes (w : World) (g : Nat) (l : List UInt8) : Prop where
  cell : ∀ i, i < l.length → w.cell? ⟨g, i, none⟩ = some (.int .u8 (((l.getD i 0).toNat : Nat) : Int))
  free : ∀ i, i < l.length → w.frozen? ⟨g, i, none⟩ = false
theorem Bytes.set {w : World} {g : Nat} {l : List UInt8} (h : Bytes w g l) (j : Nat) (hj : j < l.length) (v : UInt8) : Bytes (w.setCell ⟨g, j, none⟩ (.int .u8 ((v.toNat : Nat) : Int))) g (l.set j v) := by
  constructor
  · intro i hi
    rw [List.length_set] at hi
    by_cases e : i = j
    · subst e
      rw [World.cell?_setCell_same _ _ _ (h.cell i hi), List.getD_eq_getElem?_getD, List.getElem?_set_self hi]
      rfl
    · rw [World.cell?_setCell_other _ _ _ _ (by intro c; exact e (by injection c with _ c2; exact c2.symm)), h.cell i hi, List.getD_eq_getElem?_getD, List.getD_eq_getElem?_getD, List.getElem?_set_ne (fun c => e c.symm)]
  · intro i hi
    rw [List.length_set] at hi
    rw [World.frozen?_setCell]
    exact h.free i hi
theorem Bytes.back {w : World} {g L c : Nat} {l : List UInt8} (h : Bytes w g l) (hl : L = l.length) : (convert 37 9 (.slice (some ⟨g, 0, none⟩) L c)).run Tryz.prog w = .ok (.string ⟨l.toArray⟩) w := by
  rw [hl]
  refine run_convert_bytes_back w 37 9 5 ⟨g, 0, none⟩ c l Tryz.underlying37 Tryz.underlying5 Tryz.underlying9 ?_
  intro j hj
  rw [Addr.add_lit, Nat.zero_add, h.cell j hj, List.getD_eq_getElem?_getD, List.getElem?_eq_getElem hj]
  rfl
theorem info5 : (Tryz.prog.info? 5).map (fun i => (i.zero, i.size, i.bytes)) = some (some (.int .u8 0), 1, 1) := by kernel_rfl
/-- So many zero bytes, as cells. -/
def zeros (n : Nat) : Array Value := madeCells (Value.cells (.int .u8 0)) n
theorem zeros_at (n i : Nat) (h : i < n) : (zeros n)[i]? = some (.int .u8 0) := by
  unfold zeros
  rw [← Array.getElem?_toList, show (Value.cells (.int .u8 0)) = #[.int .u8 0] from rfl, toList_madeCells_one, List.getElem?_replicate, if_pos h]
theorem Bytes.zeros (w : World) (n : Nat) : Bytes (w.alloc (.cells (zeros n) 5)) w.heap.size (List.replicate n 0) := by
  constructor
  · intro i hi
    rw [List.length_replicate] at hi
    rw [World.cell?_alloc_mark, zeros_at n i hi, List.getD_eq_getElem?_getD, List.getElem?_replicate, if_pos hi]
    rfl
  · intro i _
    rw [World.frozen?_alloc_mark]
    simp
theorem make_bytes (n : Nat) (h : n ≤ 140737488351232) (w : World) :
    ∃ w1, (Instr.makeSlice 37 (.int .i64 (n : Int)) (.int .i64 (n : Int))).run Tryz.prog w = .ok (.slice (some ⟨w.heap.size, 0, none⟩) n n) w1 ∧ Bytes w1 w.heap.size (List.replicate n 0) ∧ Below w.heap.size w w1 := by
  obtain ⟨i, hi, hz0, hz1, hz2⟩ := info_parts info5
  have := run_make (P := Tryz.prog) w 37 5 i (.int .u8 0) Tryz.underlying37 hi hz0 .i64 .i64 n n (by omega) (Int.le_refl _) (by rw [hz2]; omega) (by omega)
  rw [hz1, Nat.mul_one, Int.toNat_natCast] at this
  exact ⟨_, this, Bytes.zeros w n, (Below.refl _ _).alloc (Nat.le_refl _) _⟩

theorem getD_at (s : ByteArray) (j : Nat) (h : j < s.size) : s.data.toList.getD j 0 = s[j] := by
  have h' : j < s.data.toList.length := by simpa using h
  rw [List.getD_eq_getElem?_getD, List.getElem?_eq_getElem h']
  rfl

set_option maxHeartbeats 400000 in
theorem get4 (s : ByteArray) (a : Nat) (w : World) (hs : s.size ≤ 140737488355327) (h : a + 4 ≤ s.size) (hm : Plain.val s.data.toList a 4 ≤ 2147483647) :
    Calls Tryz.prog 120 #[.string s, .int .i64 (a : Int), .int .i64 4] w fun r w' => r = .returned (.tuple #[.int .i64 ((Plain.val s.data.toList a 4 : Nat) : Int), .int .i64 0]) ∧ w' = w := by
  have h1 : sizeB 4 = true := by decide
  have h2 : roomI s.size (a : Int) = (s.size : Int) - a := if_pos (by omega)
  go_enter Tryz.func120, Tryz.ntmps120
  go_wp2_with fail
  refine (isSize _ _).mono ?_
  rintro e w' ⟨rfl, rfl⟩
  rw [h1]
  go_wp2_with fail
  refine (room _ _ _ hs).mono ?_
  rintro e w' ⟨rfl, rfl⟩
  rw [h2]
  go_wp2_with fail
  go_loop [8, 21] (fun t i => ∃ k : Nat, k ≤ 4 ∧ i = .int .i64 k ∧ t = .int .u64 ((Plain.val s.data.toList a k : Nat) : Int)) (fun _ i => 4 - (intOf i).toNat)
  case atStart => exact ⟨0, by omega, rfl, rfl⟩
  case round =>
    obtain ⟨k, hk, rfl, rfl⟩ := hrel
    by_cases hlt : k < 4
    · have hx := Plain.val_lt s.data.toList a k
      have hx2 := Plain.val_lt s.data.toList a (k + 1)
      have HV : Hid (Plain.val s.data.toList a (k + 1) = Plain.val s.data.toList a k + s[a + k].toNat * 256 ^ k) := by
        unfold Hid; rw [Plain.val, getD_at s (a + k) (by omega)]
      have hb := Plain.byte_lt s[a + k]
      clear hx2
      generalize Plain.val s.data.toList a k = z at *
      go_wp2
      go_round
      case rel => exact ⟨k + 1, by omega, by go_num, by rw [HV.out, Plain.step8 z _ k (by omega) hx hb]⟩
      case measure => simp [intOf]; omega
    · have hk8 : k = 4 := by omega
      subst hk8
      go_wp2
      go_ret2
      exact ⟨rfl, rfl⟩
set_option maxHeartbeats 400000 in
theorem get4_no (s : ByteArray) (a : Nat) (w : World) (hs : s.size ≤ 140737488355327) (h : a + 4 ≤ s.size) (hm : 2147483647 < Plain.val s.data.toList a 4) :
    Calls Tryz.prog 120 #[.string s, .int .i64 (a : Int), .int .i64 4] w fun r w' => r = .returned (.tuple #[.int .i64 0, .int .i64 300]) ∧ w' = w := by
  have h1 : sizeB 4 = true := by decide
  have h2 : roomI s.size (a : Int) = (s.size : Int) - a := if_pos (by omega)
  go_enter Tryz.func120, Tryz.ntmps120
  go_wp2_with fail
  refine (isSize _ _).mono ?_
  rintro e w' ⟨rfl, rfl⟩
  rw [h1]
  go_wp2_with fail
  refine (room _ _ _ hs).mono ?_
  rintro e w' ⟨rfl, rfl⟩
  rw [h2]
  go_wp2_with fail
  go_loop [8, 21] (fun t i => ∃ k : Nat, k ≤ 4 ∧ i = .int .i64 k ∧ t = .int .u64 ((Plain.val s.data.toList a k : Nat) : Int)) (fun _ i => 4 - (intOf i).toNat)
  case atStart => exact ⟨0, by omega, rfl, rfl⟩
  case round =>
    obtain ⟨k, hk, rfl, rfl⟩ := hrel
    by_cases hlt : k < 4
    · have hx := Plain.val_lt s.data.toList a k
      have hx2 := Plain.val_lt s.data.toList a (k + 1)
      have HV : Hid (Plain.val s.data.toList a (k + 1) = Plain.val s.data.toList a k + s[a + k].toNat * 256 ^ k) := by
        unfold Hid; rw [Plain.val, getD_at s (a + k) (by omega)]
      have hb := Plain.byte_lt s[a + k]
      clear hx2
      generalize Plain.val s.data.toList a k = z at *
      go_wp2
      go_round
      case rel => exact ⟨k + 1, by omega, by go_num, by rw [HV.out, Plain.step8 z _ k (by omega) hx hb]⟩
      case measure => simp [intOf]; omega
    · have hk8 : k = 4 := by omega
      subst hk8
      generalize Plain.val s.data.toList a 4 = z at *
      go_wp2
      go_ret2
      exact ⟨rfl, rfl⟩

set_option maxHeartbeats 400000 in
theorem get_no (s : ByteArray) (a n : Int) (w : World) (hs : s.size ≤ 140737488355327) (h : ¬ ((n = 4 ∨ n = 8) ∧ 0 ≤ a ∧ a + n ≤ (s.size : Int))) :
    Calls Tryz.prog 120 #[.string s, .int .i64 a, .int .i64 n] w fun r w' => r = .returned (.tuple #[.int .i64 0, .int .i64 300]) ∧ w' = w := by
  cases h1 : sizeB n
  · clear h
    go_enter Tryz.func120, Tryz.ntmps120
    go_wp2_with fail
    refine (isSize _ _).mono ?_
    rintro e w' ⟨rfl, rfl⟩
    rw [h1]
    go_wp2
    go_ret2
    exact ⟨rfl, rfl⟩
  · have hn : n = 4 ∨ n = 8 := of_decide_eq_true h1
    have h2 : roomI s.size a < n := by
      unfold roomI
      split <;> omega
    clear h
    have HN : Hid (n = 4 ∨ n = 8) := hn
    clear hn
    go_enter Tryz.func120, Tryz.ntmps120
    go_wp2_with fail
    refine (isSize _ _).mono ?_
    rintro e w' ⟨rfl, rfl⟩
    rw [h1]
    go_wp2_with fail
    refine (room _ _ _ hs).mono ?_
    rintro e w' ⟨rfl, rfl⟩
    generalize roomI s.size a = q at *
    go_wp2
    go_ret2
    exact ⟨rfl, rfl⟩
end Go.Proofs.YthbjeedmhgnnaaaGreat.Fix
namespace Go.Proofs.YthbjeedmhgnnaaaGreat.Fix
open Go.ChangeShapes Go.WideShapes Go.ChangeAt Go.RowKit

/-- Bytes, as cells. -/
def cells (l : List UInt8) : List Value := l.map fun b => .int .u8 ((b.toNat : Nat) : Int)
theorem refUp (x a b : Int) (w : World) :
    Calls Tryz.prog 87 #[.int .i64 x, .int .i64 a, .int .i64 b] w fun r w' => r = .returned (.bool (decide (a ≤ x ∧ x ≤ b))) ∧ w' = w := by
  by_cases h : a ≤ x
  · go_enter Tryz.func87, Tryz.ntmps87
    go_wp2
    go_ret
    exact ⟨ret_bool (by simp [h]), rfl⟩
  · go_enter Tryz.func87, Tryz.ntmps87
    go_wp2
    go_ret
    exact ⟨ret_bool (by simp; omega), rfl⟩
theorem refIn (x : Int) (w : World) :
    Calls Tryz.prog 86 #[.int .i64 x] w fun r w' => r = .returned (.bool (shortB x)) ∧ w' = w := by
  go_enter Tryz.func86, Tryz.ntmps86
  go_wp2_with fail
  refine (refUp _ _ _ _).mono ?_
  rintro e w' ⟨rfl, rfl⟩
  rw [show decide (0 ≤ x ∧ x ≤ 2147483647) = shortB x from rfl]
  go_wp2
  go_ret
  exact ⟨rfl, rfl⟩
end Go.Proofs.YthbjeedmhgnnaaaGreat.Fix
namespace Go.Proofs.YthbjeedmhgnnaaaGreat.Fix
open Go.ChangeShapes Go.WideShapes Go.ChangeAt Go.RowKit

theorem ret_str {a b : List UInt8} (h : a = b) : Ending.returned (.string ⟨a.toArray⟩) = .returned (.string ⟨b.toArray⟩) := by rw [h]
set_option maxHeartbeats 400000 in
theorem refLow8 (x : Int) (X : Nat) (hX : IntKind.u64.wrap x = (X : Int)) (w : World) :
    Calls Tryz.prog 27 #[.int .i64 x, .int .i64 8] w fun r w' => r = .returned (.string ⟨(Plain.low X 8).toArray⟩) ∧ Below w.heap.size w w' := by
  have HX : Hid (IntKind.u64.wrap x = (X : Int)) := hX
  clear hX
  obtain ⟨w1, hmk, hb1, hbl1⟩ := make_bytes 8 (by decide) w
  rw [← Plain.lowTo_zero X] at hb1
  have hmk' : (Instr.makeSlice 37 (.int .i64 8) (.int .i64 8)).run Tryz.prog w = .ok (.slice (some ⟨w.heap.size, 0, none⟩) 8 8) w1 := hmk
  clear hmk
  go_enter Tryz.func27, Tryz.ntmps27
  go_wp2_with fail
  go_loopw [6] (fun i wr => ∃ k : Nat, k ≤ 8 ∧ i = .int .i64 k ∧ Bytes wr w.heap.size (Plain.lowTo X 8 k) ∧ Below w.heap.size w wr) (fun i _ => 8 - (intOf i).toNat)
  case atStart => exact ⟨0, by omega, rfl, hb1, hbl1⟩
  case round =>
    obtain ⟨k, hk, rfl, hb, hbl⟩ := hrel
    have HB : Hid (Bytes wr w.heap.size (Plain.lowTo X 8 k)) := hb
    clear hb hb1 hbl1 hmk'
    by_cases hlt : k < 8
    · have hc := HB.out.cell k (by rw [Plain.length_lowTo]; exact hlt)
      have hf := HB.out.free k (by rw [Plain.length_lowTo]; exact hlt)
      have HB2 : Hid (Bytes (wr.setCell ⟨w.heap.size, k, none⟩ (.int .u8 (x / 2 ^ (8 * k) % 256 : Int))) w.heap.size (Plain.lowTo X 8 (k + 1))) := by
        have := HB.out.set k (by rw [Plain.length_lowTo]; exact hlt) (UInt8.ofNat (X / 256 ^ k))
        rw [← Plain.lowTo_succ] at this
        have e : (((UInt8.ofNat (X / 256 ^ k)).toNat : Nat) : Int) = ((X / 256 ^ k : Nat) % 256 : Int) := by simp
        rw [e, ← Plain.shr_byte x X k HX.out (by omega)] at this
        exact this
      generalize ((Plain.lowTo X 8 k).getD k 0).toNat = y at *
      go_wp2
      go_roundw
      case rel => exact ⟨k + 1, by omega, by go_num, HB2.out, hbl.setCell (Nat.le_refl _) _⟩
      case measure => simp [intOf]; omega
    · have hk8 : k = 8 := by omega
      subst hk8
      have hbk := HB.out.back (L := 8) (c := 8) (Plain.length_lowTo _ _ _).symm
      go_wp2
      go_ret
      exact ⟨ret_str (Plain.lowTo_all _ _), hbl⟩

set_option maxHeartbeats 400000 in
theorem refNum (s : ByteArray) (w : World) (hs : s.size ≤ 8) :
    Calls Tryz.prog 76 #[.string s] w fun r w' => r = .returned (.int .i64 (wrap64 ((Plain.val s.data.toList 0 s.size : Nat) : Int))) ∧ w' = w := by
  go_enter Tryz.func76, Tryz.ntmps76
  go_wp2_with fail
  go_loop [3, 4] (fun t i => ∃ k : Nat, k ≤ s.size ∧ i = .int .i64 ((k : Int) - 1) ∧ t = .int .u64 ((Plain.val s.data.toList k (s.size - k) : Nat) : Int)) (fun _ i => (intOf i + 1).toNat)
  case atStart => exact ⟨s.size, by omega, rfl, by simp [Plain.val]⟩
  case round =>
    obtain ⟨k, hk, rfl, rfl⟩ := hrel
    by_cases hlt : 0 < k
    · obtain ⟨j, rfl⟩ : ∃ j, k = j + 1 := ⟨k - 1, by omega⟩
      have hx := Plain.val_lt s.data.toList (j + 1) (s.size - (j + 1))
      have HV : Hid (Plain.val s.data.toList j (s.size - j) = s[j].toNat + 256 * Plain.val s.data.toList (j + 1) (s.size - (j + 1))) := by
        unfold Hid
        rw [show s.size - j = (s.size - (j + 1)) + 1 from by omega, Plain.val_cons, getD_at s j (by omega)]
      have hb := Plain.byte_lt s[j]
      have h7 : Plain.val s.data.toList (j + 1) (s.size - (j + 1)) < 72057594037927936 := Nat.lt_of_lt_of_le hx (Nat.le_trans (Nat.pow_le_pow_right (by decide) (show s.size - (j + 1) ≤ 7 by omega)) (by decide))
      clear hx
      generalize Plain.val s.data.toList (j + 1) (s.size - (j + 1)) = z at *
      have e1 : ((j + 1 : Nat) : Int) - 1 = (j : Int) := by omega
      rw [e1]
      clear e1
      have HO : Hid (bits .or .u64 ((z : Int) * 256) (s[j].toNat : Int) = ((s[j].toNat + 256 * z : Nat) : Int)) := by
        have := Plain.or_up z s[j].toNat 8 hb (by omega)
        rw [show ((z * 2 ^ 8 : Nat) : Int) = (z : Int) * 256 from by simp] at this
        unfold Hid
        rw [this]
        omega
      go_wp2
      go_round
      case rel => exact ⟨j, by omega, rfl, by rw [HV.out, HO.out]⟩
      case measure => simp [intOf]
    · have hk0 : k = 0 := by omega
      subst hk0
      go_wp2
      go_ret
      exact ⟨rfl, rfl⟩

theorem getD_part (s : ByteArray) (a b i : Nat) (hi : i < b - a) : (s.extract a b).data.toList.getD i 0 = s.data.toList.getD (a + i) 0 := by
  have e : (s.extract a b).data.toList = (s.data.toList.drop a).take (b - a) := by simp [List.take_drop]
  rw [e, List.getD_eq_getElem?_getD, List.getD_eq_getElem?_getD, List.getElem?_take, if_pos hi, List.getElem?_drop]
theorem part (s : ByteArray) (a n : Nat) (h : a + n ≤ s.size) : ∃ p : ByteArray, p.size = n ∧ Hid (Plain.val p.data.toList 0 p.size = Plain.val s.data.toList a n) ∧
    ∀ w, (Instr.slice 9 (.string s) (some (.int .i64 (a : Int))) (some (.int .i64 ((a : Int) + (n : Int)))) none).run Tryz.prog w = .ok (.string p) w := by
  refine ⟨s.extract a (a + n), by simp; omega, ?_, fun w => ?_⟩
  · unfold Hid
    rw [show (s.extract a (a + n)).size = n from by simp; omega]
    refine Plain.val_congr _ _ _ _ _ fun i hi => ?_
    rw [Nat.zero_add, getD_part s a (a + n) i (by omega)]
  · have := run_slice_string (P := Tryz.prog) w 9 s .i64 .i64 (a : Int) ((a : Int) + (n : Int)) Tryz.underlying9 (by omega) (by omega) (by omega)
    rw [this, show ((a : Int) + (n : Int)).toNat = a + n from by omega, Int.toNat_natCast]
set_option maxHeartbeats 400000 in
theorem refGet4 (s : ByteArray) (a : Nat) (w : World) (hs : s.size ≤ 140737488355327) (h : a + 4 ≤ s.size) (hm : Plain.val s.data.toList a 4 ≤ 2147483647) :
    Calls Tryz.prog 46 #[.string s, .int .i64 (a : Int), .int .i64 4] w fun r w' => r = .returned (.tuple #[.int .i64 ((Plain.val s.data.toList a 4 : Nat) : Int), .int .i64 0]) ∧ w' = w := by
  obtain ⟨p, hp8, HP, hsl⟩ := part s a 4 h
  have HP8 : Hid (p.size = 4) := hp8
  clear hp8
  have hsl' : ∀ w, (Instr.slice 9 (.string s) (some (.int .i64 (a : Int))) (some (.int .i64 ((a : Int) + 4))) none).run Tryz.prog w = .ok (.string p) w := hsl
  clear hsl
  have HW : Hid (wrap64 ((Plain.val s.data.toList a 4 : Nat) : Int) = ((Plain.val s.data.toList a 4 : Nat) : Int)) := by unfold Hid wrap64; omega
  have h2 : shortB ((Plain.val s.data.toList a 4 : Nat) : Int) = true := decide_eq_true (by omega)
  go_enter Tryz.func46, Tryz.ntmps46
  go_wp2_with fail
  refine (refNum p _ (by rw [HP8.out]; decide)).mono ?_
  rintro e w' ⟨rfl, rfl⟩
  rw [HP.out, HW.out]
  go_wp2_with fail
  refine (refIn _ _).mono ?_
  rintro e w' ⟨rfl, rfl⟩
  rw [h2]
  go_wp2
  go_ret2
  exact ⟨rfl, rfl⟩
set_option maxHeartbeats 400000 in
theorem refGet4_no (s : ByteArray) (a : Nat) (w : World) (hs : s.size ≤ 140737488355327) (h : a + 4 ≤ s.size) (hm : 2147483647 < Plain.val s.data.toList a 4) :
    Calls Tryz.prog 46 #[.string s, .int .i64 (a : Int), .int .i64 4] w fun r w' => r = .returned (.tuple #[.int .i64 0, .int .i64 300]) ∧ w' = w := by
  obtain ⟨p, hp8, HP, hsl⟩ := part s a 4 h
  have HP8 : Hid (p.size = 4) := hp8
  clear hp8
  have hsl' : ∀ w, (Instr.slice 9 (.string s) (some (.int .i64 (a : Int))) (some (.int .i64 ((a : Int) + 4))) none).run Tryz.prog w = .ok (.string p) w := hsl
  clear hsl
  have hlt := Plain.val_lt s.data.toList a 4
  have HW : Hid (wrap64 ((Plain.val s.data.toList a 4 : Nat) : Int) = ((Plain.val s.data.toList a 4 : Nat) : Int)) := by unfold Hid wrap64; omega
  have h2 : shortB ((Plain.val s.data.toList a 4 : Nat) : Int) = false := decide_eq_false (by omega)
  go_enter Tryz.func46, Tryz.ntmps46
  go_wp2_with fail
  refine (refNum p _ (by rw [HP8.out]; decide)).mono ?_
  rintro e w' ⟨rfl, rfl⟩
  rw [HP.out, HW.out]
  go_wp2_with fail
  refine (refIn _ _).mono ?_
  rintro e w' ⟨rfl, rfl⟩
  rw [h2]
  go_wp2
  go_ret2
  exact ⟨rfl, rfl⟩
set_option maxHeartbeats 400000 in
theorem refGet_no (s : ByteArray) (a n : Int) (w : World) (hs : s.size ≤ 140737488355327) (h : ¬ ((n = 4 ∨ n = 8) ∧ 0 ≤ a ∧ a + n ≤ (s.size : Int))) :
    Calls Tryz.prog 46 #[.string s, .int .i64 a, .int .i64 n] w fun r w' => r = .returned (.tuple #[.int .i64 0, .int .i64 300]) ∧ w' = w := by
  by_cases h4 : n = 4
  · subst h4
    by_cases h0 : a < 0
    · clear h
      go_enter Tryz.func46, Tryz.ntmps46
      go_wp2
      go_ret2
      exact ⟨rfl, rfl⟩
    · have h5 : (s.size : Int) - 4 < a := by omega
      clear h
      go_enter Tryz.func46, Tryz.ntmps46
      go_wp2
      go_ret2
      exact ⟨rfl, rfl⟩
  · by_cases h8 : n = 8
    · subst h8
      by_cases h0 : a < 0
      · clear h
        go_enter Tryz.func46, Tryz.ntmps46
        go_wp2
        go_ret2
        exact ⟨rfl, rfl⟩
      · have h5 : (s.size : Int) - 8 < a := by omega
        clear h
        go_enter Tryz.func46, Tryz.ntmps46
        go_wp2
        go_ret2
        exact ⟨rfl, rfl⟩
    · clear h
      go_enter Tryz.func46, Tryz.ntmps46
      go_wp2
      go_ret2
      exact ⟨rfl, rfl⟩
end Go.Proofs.YthbjeedmhgnnaaaGreat.Fix
