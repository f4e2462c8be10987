/-
  Plain facts on numbers in bytes: so many bytes, the lowest first, and back; seven bits in a byte, and back.
-/
import Derived.WalkKit
import Derived.Laws.BitsLemmas
import Derived.Laws.Shifts
namespace Go.Proofs.Ytlbchabmjegobaa.Plain
open Go.RowKit

theorem byte_lt (b : UInt8) : b.toNat < 256 := b.toNat_lt

/-- The n lowest bytes of x, the lowest first. -/
def low (x n : Nat) : List UInt8 := (List.range n).map fun i => UInt8.ofNat (x / 256 ^ i)
/-- The same, the first k of them laid, zeros behind. -/
def lowTo (x n k : Nat) : List UInt8 := (List.range n).map fun i => if i < k then UInt8.ofNat (x / 256 ^ i) else 0
theorem length_low (x n : Nat) : (low x n).length = n := by simp [low]
theorem length_lowTo (x n k : Nat) : (lowTo x n k).length = n := by simp [lowTo]
theorem lowTo_zero (x n : Nat) : lowTo x n 0 = List.replicate n 0 := by
  apply List.ext_getElem <;> simp [lowTo]
theorem lowTo_succ (x n k : Nat) : lowTo x n (k + 1) = (lowTo x n k).set k (UInt8.ofNat (x / 256 ^ k)) := by
  apply List.ext_getElem
  · simp [lowTo]
  · intro i h1 h2
    simp only [lowTo, List.getElem_map, List.getElem_range, List.getElem_set]
    by_cases e : k = i
    · subst e; simp
    · by_cases h : i < k
      · rw [if_pos (by omega), if_neg e, if_pos h]
      · rw [if_neg (by omega), if_neg e, if_neg h]
theorem lowTo_all (x n : Nat) : lowTo x n n = low x n := by
  apply List.ext_getElem
  · simp [lowTo, low]
  · intro i h1 h2
    simp only [lowTo, low, List.getElem_map, List.getElem_range]
    rw [if_pos (by simpa [lowTo] using h1)]

/-- The number that k bytes from a on tell, the lowest first. -/
def val (l : List UInt8) (a : Nat) : Nat → Nat
  | 0 => 0
  | k + 1 => val l a k + (l.getD (a + k) 0).toNat * 256 ^ k
theorem val_lt (l : List UInt8) (a k : Nat) : val l a k < 256 ^ k := by
  induction k with
  | zero => simp [val]
  | succ k ih =>
    rw [val, Nat.pow_succ]
    have h := byte_lt (l.getD (a + k) 0)
    have h2 : (l.getD (a + k) 0).toNat * 256 ^ k ≤ 255 * 256 ^ k := Nat.mul_le_mul_right _ (by omega)
    omega
theorem val_cons (l : List UInt8) (a k : Nat) : val l a (k + 1) = (l.getD a 0).toNat + 256 * val l (a + 1) k := by
  induction k with
  | zero => simp [val]
  | succ k ih =>
    rw [val, ih, val, Nat.pow_succ]
    have e : a + 1 + k = a + (k + 1) := by omega
    rw [e, Nat.mul_add, Nat.add_assoc]
    congr 2
    rw [Nat.mul_comm (256 ^ k) 256, ← Nat.mul_assoc, ← Nat.mul_assoc, Nat.mul_comm _ 256]
theorem val_congr (l m : List UInt8) (a b k : Nat) (h : ∀ i, i < k → l.getD (a + i) 0 = m.getD (b + i) 0) : val l a k = val m b k := by
  induction k with
  | zero => rfl
  | succ k ih => rw [val, val, ih (fun i hi => h i (by omega)), h k (by omega)]
theorem low_at (x n i : Nat) (h : i < n) : ((low x n).getD i 0).toNat = x / 256 ^ i % 256 := by
  rw [List.getD_eq_getElem?_getD, List.getElem?_eq_getElem (by simpa [low] using h)]
  simp [low]
theorem val_low_le (x n k : Nat) (h : k ≤ n) : val (low x n) 0 k = x % 256 ^ k := by
  induction k with
  | zero => simp [val, Nat.mod_one]
  | succ k ih =>
    rw [val, ih (by omega), Nat.zero_add, low_at x n k (by omega), Nat.pow_succ, Nat.mod_mul, Nat.mul_comm (256 ^ k)]
theorem val_low (x n : Nat) : val (low x n) 0 n = x % 256 ^ n := val_low_le x n n (Nat.le_refl _)
/-- What stands behind others. -/
theorem getD_behind (p m q : List UInt8) (i : Nat) (h : i < m.length) : (p ++ (m ++ q)).getD (p.length + i) 0 = m.getD i 0 := by
  rw [List.getD_eq_getElem?_getD, List.getD_eq_getElem?_getD, List.getElem?_append_right (by omega), List.getElem?_append_left (by omega)]
  congr 2
  omega
theorem val_behind (p q : List UInt8) (x n : Nat) : val (p ++ (low x n ++ q)) p.length n = x % 256 ^ n := by
  rw [← val_low]
  refine val_congr _ _ _ _ _ fun i hi => ?_
  rw [getD_behind _ _ _ _ (by rw [length_low]; exact hi), Nat.zero_add]
theorem low_inj (x y n : Nat) (hx : x < 256 ^ n) (hy : y < 256 ^ n) (h : low x n = low y n) : x = y := by
  have e := val_low x n
  rw [h, val_low, Nat.mod_eq_of_lt hx, Nat.mod_eq_of_lt hy] at e
  exact e.symm

/-- What k bytes from a on tell at seven bits in a byte. -/
def v7 (l : List UInt8) (a : Nat) : Nat → Nat
  | 0 => 0
  | k + 1 => v7 l a k + (l.getD (a + k) 0).toNat % 128 * 128 ^ k
theorem v7_lt (l : List UInt8) (a k : Nat) : v7 l a k < 128 ^ k := by
  induction k with
  | zero => simp [v7]
  | succ k ih =>
    rw [v7, Nat.pow_succ]
    have h2 : (l.getD (a + k) 0).toNat % 128 * 128 ^ k ≤ 127 * 128 ^ k := Nat.mul_le_mul_right _ (by omega)
    omega
theorem v7_cons (l : List UInt8) (a k : Nat) : v7 l a (k + 1) = (l.getD a 0).toNat % 128 + 128 * v7 l (a + 1) k := by
  induction k with
  | zero => simp [v7]
  | succ k ih =>
    rw [v7, ih, v7, Nat.pow_succ]
    have e : a + 1 + k = a + (k + 1) := by omega
    rw [e, Nat.mul_add, Nat.add_assoc]
    congr 2
    rw [Nat.mul_comm (128 ^ k) 128, ← Nat.mul_assoc, ← Nat.mul_assoc, Nat.mul_comm _ 128]

/-- A number at seven bits in a byte, the lowest first, 128 more in all but the last one; at most f + 1 of them. -/
def vbF : Nat → Nat → List UInt8
  | 0, x => [UInt8.ofNat x]
  | f + 1, x => if x < 128 then [UInt8.ofNat x] else UInt8.ofNat (x % 128 + 128) :: vbF f (x / 128)
theorem vbF_enough (f : Nat) : ∀ (g x : Nat), x ≤ f → x ≤ g → vbF f x = vbF g x := by
  induction f with
  | zero =>
    intro g x hf hg
    cases g with
    | zero => rfl
    | succ g => rw [vbF, vbF, if_pos (by omega)]
  | succ f ih =>
    intro g x hf hg
    cases g with
    | zero => rw [vbF, vbF, if_pos (by omega)]
    | succ g =>
      rw [vbF, vbF]
      by_cases h : x < 128
      · rw [if_pos h, if_pos h]
      · rw [if_neg h, if_neg h, ih g (x / 128) (by omega) (by omega)]
/-- A number in as few bytes as can be. -/
def vb (x : Nat) : List UInt8 := vbF x x
theorem vb_few (x : Nat) (h : x < 128) : vb x = [UInt8.ofNat x] := by
  unfold vb
  rw [vbF_enough x (x + 1) x (by omega) (by omega), vbF, if_pos h]
theorem vb_more (x : Nat) (h : 128 ≤ x) : vb x = UInt8.ofNat (x % 128 + 128) :: vb (x / 128) := by
  unfold vb
  rw [vbF_enough x (x + 1) x (by omega) (by omega), vbF, if_neg (by omega), vbF_enough x (x / 128) (x / 128) (by omega) (by omega)]
theorem vb_some (x : Nat) : 1 ≤ (vb x).length := by
  by_cases h : x < 128
  · rw [vb_few x h]; simp
  · rw [vb_more x (by omega)]; simp
theorem vb_len (k x : Nat) (h : x < 128 ^ (k + 1)) : (vb x).length ≤ k + 1 := by
  induction k generalizing x with
  | zero => rw [vb_few x (by simpa using h)]; simp
  | succ k ih =>
    by_cases hx : x < 128
    · rw [vb_few x hx]; simp
    · rw [vb_more x (by omega), List.length_cons]
      have := ih (x / 128) (by rw [Nat.pow_succ] at h; exact Nat.div_lt_of_lt_mul (by rw [Nat.mul_comm]; exact h))
      omega

/-- Most. -/
def most : Nat := 2147483647

/-- What the bytes from a on tell, from the one numbered k on, of at most f more: the number, where it ends, and whether it is one. -/
def gv (l : List UInt8) (a : Nat) : Nat → Nat → Nat × Nat × Nat
  | 0, _ => (0, 0, 300)
  | f + 1, k =>
    if a + k < l.length then
      if 128 ≤ (l.getD (a + k) 0).toNat then gv l a f (k + 1)
      else if (0 < k ∧ (l.getD (a + k) 0).toNat = 0) ∨ most < v7 l a (k + 1) then (0, 0, 300) else (v7 l a (k + 1), a + k + 1, 0)
    else (0, 0, 300)
theorem gv_over (l : List UInt8) (a f k : Nat) (h : l.length ≤ a + k) : gv l a f k = (0, 0, 300) := by
  cases f with
  | zero => rfl
  | succ f => rw [gv, if_neg (by omega)]
theorem gv_on (l : List UInt8) (a f k : Nat) (h : a + k < l.length) (hb : 128 ≤ (l.getD (a + k) 0).toNat) : gv l a (f + 1) k = gv l a f (k + 1) := by
  rw [gv, if_pos h, if_pos hb]
theorem gv_no (l : List UInt8) (a f k : Nat) (h : a + k < l.length) (hb : (l.getD (a + k) 0).toNat < 128) (hn : (0 < k ∧ (l.getD (a + k) 0).toNat = 0) ∨ most < v7 l a (k + 1)) : gv l a (f + 1) k = (0, 0, 300) := by
  rw [gv, if_pos h, if_neg (by omega), if_pos hn]
theorem gv_yes (l : List UInt8) (a f k : Nat) (h : a + k < l.length) (hb : (l.getD (a + k) 0).toNat < 128) (hn : ¬ ((0 < k ∧ (l.getD (a + k) 0).toNat = 0) ∨ most < v7 l a (k + 1))) : gv l a (f + 1) k = (v7 l a (k + 1), a + k + 1, 0) := by
  rw [gv, if_pos h, if_neg (by omega), if_neg hn]

/-- What a number's own bytes tell is that number. -/
theorem gv_back (l r : List UInt8) (a : Nat) (f : Nat) : ∀ (k y x : Nat), l.drop (a + k) = vb y ++ r → x = v7 l a k + y * 128 ^ k → y < 128 ^ (f + 1) → (0 < k → 0 < y) → x ≤ most →
    gv l a (f + 1) k = (x, a + k + (vb y).length, 0) := by
  induction f with
  | zero =>
    intro k y x hd hx hy hk hm
    have hy' : y < 128 := by simpa using hy
    rw [vb_few y hy'] at hd ⊢
    have hl : a + k < l.length := by
      have := congrArg List.length hd
      simp at this; omega
    have hb : l.getD (a + k) 0 = UInt8.ofNat y := by
      have := congrArg (fun m => m.getD 0 0) hd
      simpa [List.getD_eq_getElem?_getD] using this
    have hbn : (l.getD (a + k) 0).toNat = y := by rw [hb]; simp; omega
    have hv : v7 l a (k + 1) = x := by rw [v7, hbn, Nat.mod_eq_of_lt hy', hx]
    rw [gv_yes l a _ k hl (by omega) (by rw [hv, hbn]; omega), hv]
    simp
  | succ f ih =>
    intro k y x hd hx hy hk hm
    by_cases hy' : y < 128
    · rw [vb_few y hy'] at hd ⊢
      have hl : a + k < l.length := by
        have := congrArg List.length hd
        simp at this; omega
      have hb : l.getD (a + k) 0 = UInt8.ofNat y := by
        have := congrArg (fun m => m.getD 0 0) hd
        simpa [List.getD_eq_getElem?_getD] using this
      have hbn : (l.getD (a + k) 0).toNat = y := by rw [hb]; simp; omega
      have hv : v7 l a (k + 1) = x := by rw [v7, hbn, Nat.mod_eq_of_lt hy', hx]
      rw [gv_yes l a _ k hl (by omega) (by rw [hv, hbn]; omega), hv]
      simp
    · rw [vb_more y (by omega)] at hd ⊢
      have hl : a + k < l.length := by
        have := congrArg List.length hd
        simp at this; omega
      have hb : l.getD (a + k) 0 = UInt8.ofNat (y % 128 + 128) := by
        have := congrArg (fun m => m.getD 0 0) hd
        simpa [List.getD_eq_getElem?_getD] using this
      have hbn : (l.getD (a + k) 0).toNat = y % 128 + 128 := by rw [hb]; simp; omega
      have hd2 : l.drop (a + (k + 1)) = vb (y / 128) ++ r := by
        have := congrArg (fun m => m.drop 1) hd
        simpa [Nat.add_assoc] using this
      rw [gv_on l a _ k hl (by omega), ih (k + 1) (y / 128) x hd2 ?_ ?_ (by omega) hm]
      · simp; omega
      · rw [hx, v7, hbn, Nat.pow_succ, Nat.add_assoc]
        congr 1
        have e : y = y % 128 + y / 128 * 128 := by omega
        have e2 : (y % 128 + 128) % 128 = y % 128 := by omega
        rw [e2]
        have e3 : y * 128 ^ k = y % 128 * 128 ^ k + y / 128 * 128 * 128 ^ k := by rw [← Nat.add_mul, ← e]
        rw [e3, Nat.mul_assoc, Nat.mul_comm 128]
      · rw [Nat.pow_succ] at hy
        exact Nat.div_lt_of_lt_mul (by rw [Nat.mul_comm]; exact hy)
theorem gv_vb (l r : List UInt8) (a x : Nat) (h : l.drop a = vb x ++ r) (hx : x ≤ most) : gv l a 5 0 = (x, a + (vb x).length, 0) :=
  gv_back l r a 4 0 x x h (by simp [v7]) (by unfold most at hx; omega) (by omega) hx
theorem vb_inj (x y : Nat) (hx : x ≤ most) (hy : y ≤ most) (h : vb x = vb y) : x = y := by
  have e := gv_vb (vb x) [] 0 x (by simp) hx
  have e2 := gv_vb (vb x) [] 0 y (by rw [h]; simp) hy
  rw [e] at e2
  exact (Prod.mk.inj e2).1
theorem ofNat_toNat (b : UInt8) : UInt8.ofNat b.toNat = b := by simp

/-- Bytes that go on up to the one numbered k and end there: they are the number's own just if the last one is not a zero behind others. -/
theorem vb_v7 (l : List UInt8) (k : Nat) : ∀ a, a + k < l.length → (∀ j, j < k → 128 ≤ (l.getD (a + j) 0).toNat) → (l.getD (a + k) 0).toNat < 128 →
    (vb (v7 l a (k + 1)) = (l.drop a).take (k + 1) ↔ ¬ (0 < k ∧ (l.getD (a + k) 0).toNat = 0)) := by
  induction k with
  | zero =>
    intro a hl _ hb
    have e : (l.drop a).take 1 = [l.getD a 0] := by
      have hl' : a < l.length := by omega
      rw [List.drop_eq_getElem_cons hl', List.getD_eq_getElem?_getD, List.getElem?_eq_getElem hl']
      rfl
    rw [Nat.add_zero] at hb
    rw [e]
    simp only [v7, Nat.add_zero, Nat.zero_add, Nat.pow_zero, Nat.mul_one, Nat.mod_eq_of_lt hb]
    rw [vb_few _ hb, ofNat_toNat]
    simp
  | succ k ih =>
    intro a hl hc hb
    have hc0 : 128 ≤ (l.getD a 0).toNat := hc 0 (by omega)
    have h256 := byte_lt (l.getD a 0)
    have e : (l.drop a).take (k + 1 + 1) = l.getD a 0 :: (l.drop (a + 1)).take (k + 1) := by
      rw [List.getD_eq_getElem?_getD, List.getElem?_eq_getElem (by omega), List.drop_eq_getElem_cons (by omega), List.take_succ_cons]
      simp
    have ek : a + 1 + k = a + (k + 1) := by omega
    have hi := ih (a + 1) (by omega) (fun j hj => by have := hc (j + 1) (by omega); rw [show a + 1 + j = a + (j + 1) from by omega]; exact this) (by rw [ek]; exact hb)
    rw [ek] at hi
    rw [v7_cons, e]
    have htop : v7 l (a + 1) (k + 1) = v7 l (a + 1) k + (l.getD (a + (k + 1)) 0).toNat % 128 * 128 ^ k := by rw [v7, ek]
    have hp : 0 < 128 ^ k := Nat.pos_of_ne_zero (by simp)
    rw [Nat.mod_eq_of_lt hb] at htop
    generalize v7 l (a + 1) (k + 1) = y at *
    by_cases hy : y = 0
    · subst hy
      have hz : (l.getD (a + (k + 1)) 0).toNat = 0 := by
        have : (l.getD (a + (k + 1)) 0).toNat * 128 ^ k = 0 := by omega
        rcases Nat.mul_eq_zero.1 this with h | h
        · exact h
        · omega
      constructor
      · intro h
        have := congrArg List.length h
        rw [vb_few _ (by omega)] at this
        simp [List.length_take, List.length_drop] at this
        omega
      · intro h
        exact absurd ⟨by omega, hz⟩ h
    · rw [vb_more _ (by omega), show ((l.getD a 0).toNat % 128 + 128 * y) % 128 + 128 = (l.getD a 0).toNat from by omega, show ((l.getD a 0).toNat % 128 + 128 * y) / 128 = y from by omega, ofNat_toNat]
      constructor
      · intro h hn
        have h2 := (hi.1 (List.cons.inj h).2)
        by_cases hk : 0 < k
        · exact h2 ⟨hk, hn.2⟩
        · have hk0 : k = 0 := by omega
          subst hk0
          rw [hn.2] at htop
          simp [v7] at htop
          exact hy htop
      · intro h
        rw [hi.2 (fun hn => h ⟨by omega, hn.2⟩)]

theorem or_nat (x b i : Nat) (h : x < 2 ^ i) : x ||| b * 2 ^ i = x + b * 2 ^ i := by
  rw [Nat.or_comm, ← Nat.shiftLeft_eq, ← Nat.shiftLeft_add_eq_or_of_lt h, Nat.add_comm]
theorem or_u64 (x b i : Nat) (hx : x < 2 ^ i) (h : x + b * 2 ^ i < 2 ^ 64) : bits .or .u64 (x : Int) ((b * 2 ^ i : Nat) : Int) = ((x + b * 2 ^ i : Nat) : Int) := by
  rw [(bits_nat .u64 64 (by decide) (fun n h0 h1 => by rw [IntKind.wrap_u64]; omega) x (b * 2 ^ i) (by omega) (by omega)).2, or_nat x b i hx]
theorem or_i64 (x b i : Nat) (hx : x < 2 ^ i) (h : x + b * 2 ^ i < 2 ^ 63) : bits .or .i64 (x : Int) ((b * 2 ^ i : Nat) : Int) = ((x + b * 2 ^ i : Nat) : Int) := by
  rw [(bits_nat .i64 63 (by decide) (fun n h0 h1 => by rw [IntKind.wrap_i64]; omega) x (b * 2 ^ i) (by omega) (by omega)).2, or_nat x b i hx]
/-- The other way round: what was moved up, and a byte. -/
theorem or_up (x b i : Nat) (hb : b < 2 ^ i) (h : x * 2 ^ i + b < 2 ^ 64) : bits .or .u64 ((x * 2 ^ i : Nat) : Int) (b : Int) = ((x * 2 ^ i + b : Nat) : Int) := by
  rw [(bits_nat .u64 64 (by decide) (fun n h0 h1 => by rw [IntKind.wrap_u64]; omega) (x * 2 ^ i) b (by omega) (by omega)).2, Nat.or_comm, or_nat b x i hb, Nat.add_comm]
theorem pow8 (k : Nat) : 256 ^ k = 2 ^ (8 * k) := by rw [Nat.pow_mul]
theorem pow7 (k : Nat) : 128 ^ k = 2 ^ (7 * k) := by rw [Nat.pow_mul]
theorem and127_all : ∀ x : Fin 256, bits .and .u8 (x.val : Int) 127 = ((x.val % 128 : Nat) : Int) := by decide +kernel
theorem and127 (x : Nat) (h : x < 256) : bits .and .u8 (x : Int) 127 = ((x % 128 : Nat) : Int) := and127_all ⟨x, h⟩
theorem or128_all : ∀ x : Fin 256, bits .or .u8 (x.val : Int) 128 = ((x.val % 128 + 128 : Nat) : Int) := by decide +kernel
theorem or128 (x : Nat) (h : x < 256) : bits .or .u8 (x : Int) 128 = ((x % 128 + 128 : Nat) : Int) := or128_all ⟨x, h⟩
theorem or128i_all : ∀ x : Fin 128, bits .or .i64 (x.val : Int) 128 = ((x.val + 128 : Nat) : Int) := by decide +kernel
theorem or128i (x : Nat) (h : x < 128) : bits .or .i64 (x : Int) 128 = ((x + 128 : Nat) : Int) := or128i_all ⟨x, h⟩
theorem and_mask (x : Int) (j : Nat) (hj : j < 63) (m : Int) (hm : m = ((2 ^ j - 1 : Nat) : Int)) : bits .and .i64 x m = x % ((2 ^ j : Nat) : Int) := by
  subst hm
  have hp : 2 ^ j ≤ 4611686018427387904 := Nat.pow_le_pow_right (n := 2) (j := 62) (by decide) (by omega)
  have hp0 : 0 < 2 ^ j := Nat.pos_of_ne_zero (by simp)
  unfold bits
  have e : (BitVec.ofInt IntKind.i64.bits x &&& BitVec.ofInt IntKind.i64.bits ((2 ^ j - 1 : Nat) : Int)).toNat = (x % ((2 ^ j : Nat) : Int)).toNat := by
    rw [BitVec.toNat_and, BitVec.toNat_ofInt, BitVec.toNat_ofInt]
    have e1 : (((2 ^ j - 1 : Nat) : Int) % ((2 ^ IntKind.i64.bits : Nat) : Int)).toNat = 2 ^ j - 1 := by
      rw [← Int.natCast_emod, Int.toNat_natCast]
      exact Nat.mod_eq_of_lt (by show _ < 2 ^ 64; omega)
    rw [e1, Nat.and_two_pow_sub_one_eq_mod]
    have hd : ((2 ^ j : Nat) : Int) ∣ ((2 ^ IntKind.i64.bits : Nat) : Int) := by
      refine Int.natCast_dvd_natCast.2 (Nat.pow_dvd_pow 2 ?_)
      show j ≤ 64
      omega
    have hn : 0 ≤ x % ((2 ^ IntKind.i64.bits : Nat) : Int) := Int.emod_nonneg _ (by decide)
    have h2 := Int.emod_emod_of_dvd x hd
    rw [← h2]
    generalize x % ((2 ^ IntKind.i64.bits : Nat) : Int) = y at *
    obtain ⟨n, rfl⟩ := Int.eq_ofNat_of_zero_le hn
    rw [← Int.natCast_emod]
    simp only [Int.toNat_natCast]
  simp only [e]
  have hr0 : 0 ≤ x % ((2 ^ j : Nat) : Int) := Int.emod_nonneg _ (by omega)
  have hr1 : x % ((2 ^ j : Nat) : Int) < ((2 ^ j : Nat) : Int) := Int.emod_lt_of_pos _ (by omega)
  rw [Int.toNat_of_nonneg hr0, IntKind.wrap_i64]
  generalize 2 ^ j = q at *
  omega
theorem and10 (x : Int) : bits .and .i64 x 1023 = x % 1024 := and_mask x 10 (by decide) _ (by decide)
theorem and31 (x : Int) : bits .and .i64 x 2147483647 = x % 2147483648 := and_mask x 31 (by decide) _ (by decide)
theorem and7 (x : Int) : bits .and .i64 x 127 = x % 128 := and_mask x 7 (by decide) _ (by decide)
theorem and3 (x : Int) : bits .and .i64 x 7 = x % 8 := and_mask x 3 (by decide) _ (by decide)
theorem and1 (x : Int) : bits .and .i64 x 1 = x % 2 := and_mask x 1 (by decide) _ (by decide)

theorem step8 (z b k : Nat) (hk : k < 8) (hz : z < 256 ^ k) (hb : b < 256) : bits .or .u64 (z : Int) (IntKind.u64.wrap ((b : Int) * 2 ^ (8 * k))) = ((z + b * 256 ^ k : Nat) : Int) := by
  have h1 : b * 256 ^ k ≤ 255 * 256 ^ k := Nat.mul_le_mul_right _ (by omega)
  have h2 : 256 ^ (k + 1) ≤ 256 ^ 8 := Nat.pow_le_pow_right (by decide) (by omega)
  rw [Nat.pow_succ] at h2
  rw [pow8 k] at *
  have e : IntKind.u64.wrap ((b : Int) * 2 ^ (8 * k)) = ((b * 2 ^ (8 * k) : Nat) : Int) := by
    rw [IntKind.wrap_u64, show ((b : Int) * 2 ^ (8 * k)) = ((b * 2 ^ (8 * k) : Nat) : Int) from by simp]
    omega
  rw [e, or_u64 z b (8 * k) hz (by omega)]
theorem step7 (z b k : Nat) (hk : k < 5) (hz : z < 128 ^ k) (hb : b < 128) : bits .or .u64 (z : Int) (IntKind.u64.wrap ((b : Int) * 2 ^ (7 * k))) = ((z + b * 128 ^ k : Nat) : Int) := by
  have h1 : b * 128 ^ k ≤ 127 * 128 ^ k := Nat.mul_le_mul_right _ (by omega)
  have h2 : 128 ^ (k + 1) ≤ 128 ^ 5 := Nat.pow_le_pow_right (by decide) (by omega)
  rw [Nat.pow_succ] at h2
  rw [pow7 k] at *
  have e : IntKind.u64.wrap ((b : Int) * 2 ^ (7 * k)) = ((b * 2 ^ (7 * k) : Nat) : Int) := by
    rw [IntKind.wrap_u64, show ((b : Int) * 2 ^ (7 * k)) = ((b * 2 ^ (7 * k) : Nat) : Int) from by simp]
    omega
  rw [e, or_u64 z b (7 * k) hz (by omega)]
theorem step7i (z b k : Nat) (hk : k < 5) (hz : z < 128 ^ k) (hb : b < 128) : bits .or .i64 (z : Int) (IntKind.i64.wrap ((b : Int) * 2 ^ (7 * k))) = ((z + b * 128 ^ k : Nat) : Int) := by
  have h1 : b * 128 ^ k ≤ 127 * 128 ^ k := Nat.mul_le_mul_right _ (by omega)
  have h2 : 128 ^ (k + 1) ≤ 128 ^ 5 := Nat.pow_le_pow_right (by decide) (by omega)
  rw [Nat.pow_succ] at h2
  rw [pow7 k] at *
  have e : IntKind.i64.wrap ((b : Int) * 2 ^ (7 * k)) = ((b * 2 ^ (7 * k) : Nat) : Int) := by
    rw [IntKind.wrap_i64, show ((b : Int) * 2 ^ (7 * k)) = ((b * 2 ^ (7 * k) : Nat) : Int) from by simp]
    omega
  rw [e, or_i64 z b (7 * k) hz (by omega)]

/-- A byte of an int, moved down: its two's complement's. -/
theorem shr_byte (x : Int) (X k : Nat) (hX : IntKind.u64.wrap x = (X : Int)) (hk : k < 8) : x / 2 ^ (8 * k) % 256 = ((X / 256 ^ k : Nat) : Int) % 256 := by
  rw [IntKind.wrap_u64] at hX
  match k, hk with
  | 0, _ => simp; omega
  | 1, _ => simp; omega
  | 2, _ => simp; omega
  | 3, _ => simp; omega
  | 4, _ => simp; omega
  | 5, _ => simp; omega
  | 6, _ => simp; omega
  | 7, _ => simp; omega
end Go.Proofs.Ytlbchabmjegobaa.Plain
