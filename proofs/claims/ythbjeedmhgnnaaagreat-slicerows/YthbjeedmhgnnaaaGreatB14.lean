/-
  Several texts in one: Sums over numbers, and how much hangs below a node: plain facts. · What is read of an array that may be is a value that fits its node. · What is read of an array that may be is a value that fits its node: the whole. · Lists one behind the other: what stands where; numbers in a row of bytes; truths in bits: plain facts. · An array of values: what is built of them; values that fit, taken apart; a node's zero: plain functions and facts. · What is built of values that fit may be, and is read as these values. · What is built of values that fit may be, and is read as these values: the whole. · An array that may be: looked at more deeply it is the same; each part of it may be, and its rows are those of the whole. · What is read of an array that may be can be built again. · Leaves by a dictionary and by runs: what is made of values may be, and is read as these values.
-/
import Derived.WalkKit
import Derived.Test.YthbjeedmhgnnaaaGreatB01
import Derived.Test.YthbjeedmhgnnaaaGreatB03
namespace Go.Proofs.YthbjeedmhgnnaaaGreat.Sums
open Tree

def sumTo (g : Nat → Nat) : Nat → Nat
  | 0 => 0
  | k + 1 => sumTo g k + g k
theorem sumTo_le {g h : Nat → Nat} : ∀ k, (∀ j, j < k → g j ≤ h j) → sumTo g k ≤ sumTo h k
  | 0, _ => Nat.le_refl _
  | k + 1, hh => Nat.add_le_add (sumTo_le k fun j hj => hh j (by omega)) (hh k (by omega))
theorem sumTo_congr {g h : Nat → Nat} (k : Nat) (hh : ∀ j, j < k → g j = h j) : sumTo g k = sumTo h k :=
  Nat.le_antisymm (sumTo_le k fun j hj => Nat.le_of_eq (hh j hj)) (sumTo_le k fun j hj => Nat.le_of_eq (hh j hj).symm)
theorem sumTo_add (g h : Nat → Nat) : ∀ k, sumTo (fun j => g j + h j) k = sumTo g k + sumTo h k
  | 0 => rfl
  | k + 1 => by
    rw [sumTo, sumTo, sumTo, sumTo_add g h k]
    omega
theorem sumTo_mono (g : Nat → Nat) {k : Nat} : ∀ {m : Nat}, k ≤ m → sumTo g k ≤ sumTo g m := by
  intro m
  induction m with
  | zero =>
    intro h
    obtain rfl : k = 0 := by omega
    exact Nat.le_refl _
  | succ m ih =>
    intro h
    by_cases c : k = m + 1
    · rw [c]; exact Nat.le_refl _
    · exact Nat.le_trans (ih (by omega)) (Nat.le_add_right _ _)
theorem sumTo_term (g : Nat → Nat) {i k : Nat} (h : i < k) : g i ≤ sumTo g k := by
  have := sumTo_mono g (show i + 1 ≤ k from h)
  rw [sumTo] at this
  omega
theorem sumTo_zero : ∀ k, sumTo (fun _ => 0) k = 0
  | 0 => rfl
  | k + 1 => by rw [sumTo, sumTo_zero k]
theorem sumTo_const (c : Nat) : ∀ k, sumTo (fun _ => c) k = c * k
  | 0 => rfl
  | k + 1 => by rw [sumTo, sumTo_const c k, Nat.mul_succ]
theorem sumTo_single (i c : Nat) : ∀ k, i < k → sumTo (fun j => if j = i then c else 0) k = c
  | 0, h => absurd h (Nat.not_lt_zero _)
  | k + 1, h => by
    rw [sumTo]
    by_cases e : i = k
    · subst e
      rw [if_pos rfl, sumTo_congr (h := fun _ => 0) i (fun j hj => if_neg (by omega)), sumTo_zero]
      omega
    · rw [sumTo_single i c k (by omega), if_neg (by omega)]
      rfl
theorem sumTo_shift (g : Nat → Nat) (p : Nat) : ∀ k, sumTo (fun j => g (p + j)) k + sumTo g p = sumTo g (p + k)
  | 0 => by rw [sumTo, Nat.zero_add]; rfl
  | k + 1 => by
    have := sumTo_shift g p k
    rw [sumTo, show p + (k + 1) = (p + k) + 1 from rfl, sumTo]
    omega
theorem sumTo_swap (g : Nat → Nat → Nat) (m : Nat) : ∀ k, sumTo (fun i => sumTo (g i) m) k = sumTo (fun j => sumTo (fun i => g i j) k) m
  | 0 => by
    rw [sumTo, sumTo_congr (g := fun j => sumTo (fun i => g i j) 0) (h := fun _ => 0) m (fun j _ => rfl), sumTo_zero]
  | k + 1 => by
    rw [sumTo, sumTo_swap g m k, ← sumTo_add]
    exact sumTo_congr m (fun j _ => rfl)
/-- The lengths of texts one behind the other. -/
theorem length_flat (g : Nat → List UInt8) : ∀ k, ((List.range k).map g).flatten.length = sumTo (fun j => (g j).length) k
  | 0 => rfl
  | k + 1 => by
    rw [List.range_succ, List.map_append, List.flatten_append, List.length_append, length_flat g k]
    simp [sumTo]
/-- What hangs below a node: so much for each. -/
def hangF (c : Nat) (ns : List Nd) (i : Nat) (g : Nat → Nat) : Nat := c + sumTo (fun j => if 1 ≤ j ∧ (nd ns j).par = ((ns.length - 1 - i : Nat) : Int) then g (ns.length - 1 - j) else 0) ns.length
def hang (c : Nat) (ns : List Nd) (n : Nat) : Nat := row (hangF c ns) (ns.length - 1 - n)
theorem hang_eq {ns : List Nd} (h : May ns) (c : Nat) {n : Nat} (hn : n < ns.length) : hang c ns n = c + sumTo (fun j => if 1 ≤ j ∧ (nd ns j).par = (n : Int) then hang c ns j else 0) ns.length := by
  unfold hang
  rw [row_eq, hangF]
  congr 1
  refine sumTo_congr _ fun j hj => ?_
  rw [show ns.length - 1 - (ns.length - 1 - n) = n from by omega]
  by_cases e : 1 ≤ j ∧ (nd ns j).par = (n : Int)
  · rw [if_pos e, if_pos e]
    have := h.par j e.1 hj
    rw [tab_at _ _ _ (by omega)]
  · rw [if_neg e, if_neg e]
theorem sum_kids (ns : List Nd) (g : Nat → Nat) (a : Int) : ∀ k, ((kidsTo ns a k).map g).sum = sumTo (fun j => if 1 ≤ j ∧ (nd ns j).par = a then g j else 0) k
  | 0 => rfl
  | k + 1 => by
    rw [kidsTo, sumTo, ← sum_kids ns g a k]
    by_cases e : 1 ≤ k ∧ (nd ns k).par = a
    · rw [if_pos e, if_pos e, List.map_append, List.sum_append]
      simp
    · rw [if_neg e, if_neg e]
      rfl
theorem hang_kids {ns : List Nd} (h : May ns) (c : Nat) {n : Nat} (hn : n < ns.length) : hang c ns n = c + ((kids ns n).map (hang c ns)).sum := by
  rw [hang_eq h c hn]
  unfold kids
  rw [sum_kids]
/-- What hangs from i on, whose parent lies ahead of i. -/
def front (c : Nat) (ns : List Nd) (i : Nat) : Nat := sumTo (fun j => if i ≤ j ∧ (nd ns j).par < (i : Int) then hang c ns j else 0) ns.length
theorem May.before {ns : List Nd} (h : May ns) {i : Nat} (hi : i < ns.length) : (nd ns i).par < (i : Int) := by
  by_cases e : i = 0
  · subst e
    have := h.first
    omega
  · exact (h.par i (by omega) hi).2
theorem front_step {ns : List Nd} (h : May ns) (c : Nat) {i : Nat} (hi : i < ns.length) : front c ns i = front c ns (i + 1) + c := by
  have e : front c ns i + sumTo (fun j => if 1 ≤ j ∧ (nd ns j).par = (i : Int) then hang c ns j else 0) ns.length = front c ns (i + 1) + sumTo (fun j => if j = i then hang c ns i else 0) ns.length := by
    unfold front
    rw [← sumTo_add, ← sumTo_add]
    refine sumTo_congr _ fun j hj => ?_
    have hb := May.before h hj
    by_cases e1 : j = i
    · subst e1
      rw [if_pos ⟨Nat.le_refl _, hb⟩, if_neg (fun q => by omega), if_neg (fun q => by omega), if_pos rfl]
      omega
    · rw [if_neg e1]
      by_cases e2 : j < i
      · rw [if_neg (fun q => by omega), if_neg (fun q => by omega), if_neg (fun q => by omega)]
      · by_cases e3 : (nd ns j).par < (i : Int)
        · rw [if_pos ⟨by omega, e3⟩, if_neg (fun q => by omega), if_pos ⟨by omega, by omega⟩]
        · by_cases e4 : (nd ns j).par = (i : Int)
          · rw [if_neg (fun q => by omega), if_pos ⟨by omega, e4⟩, if_pos ⟨by omega, by omega⟩]
            omega
          · rw [if_neg (fun q => by omega), if_neg (fun q => by omega), if_neg (fun q => by omega)]
  rw [sumTo_single i (hang c ns i) ns.length hi, hang_eq h c hi] at e
  omega
theorem front_is {ns : List Nd} (h : May ns) (c : Nat) : ∀ k i, i + k = ns.length → front c ns i = c * k
  | 0, i, hk => by
    unfold front
    rw [sumTo_congr (h := fun _ => 0) ns.length (fun j hj => if_neg (fun q => by omega)), sumTo_zero]
    rfl
  | k + 1, i, hk => by
    rw [front_step h c (by omega), front_is h c k (i + 1) (by omega), Nat.mul_succ]
/-- So much hangs below a node, with it, at most. -/
theorem hang_le {ns : List Nd} (h : May ns) (c : Nat) {n : Nat} (hn : n < ns.length) : hang c ns n ≤ c * 8 := by
  have h1 : hang c ns n ≤ front c ns n := by
    have := sumTo_term (fun j => if n ≤ j ∧ (nd ns j).par < (n : Int) then hang c ns j else 0) hn
    rw [if_pos ⟨Nat.le_refl _, May.before h hn⟩] at this
    exact this
  rw [front_is h c (ns.length - n) n (by omega)] at h1
  have h8 := h.most
  exact Nat.le_trans h1 (Nat.mul_le_mul_left c (by omega))
end Go.Proofs.YthbjeedmhgnnaaaGreat.Sums
namespace Go.Proofs.YthbjeedmhgnnaaaGreat.Arr
open Tree Val Sums

theorem signed_in (x : Nat) (h : x < 18446744073709551616) : in64 (signed x) := by
  unfold signed in64
  split <;> omega
theorem length_intM (x : Int) (h : in64 x) : (intM x).length ≤ 22 := by
  have := length_intD x h
  simp [intM]
  omega
theorem length_boolM (b : Bool) : (boolM b).length = 1 := by cases b <;> rfl
theorem length_bytesM (s : List UInt8) (h : s.length ≤ 16) : (bytesM s).length ≤ 22 := by
  have h1 : (dig s.length).length ≤ 2 := length_dig_le 1 s.length (by omega) (by omega)
  simp [bytesM]
  omega
theorem length_listM (vs : List (List UInt8)) : (listM vs).length = vs.flatten.length + 2 := by simp [listM]
theorem length_structM (vs : List (List UInt8)) : (structM vs).length = vs.flatten.length + 2 := by simp [structM]
theorem kinds {ns : List Nd} (h : May ns) {n : Nat} (hn : n < ns.length) : (nd ns n).kind = 0 ∨ (nd ns n).kind = 1 ∨ (nd ns n).kind = 2 ∨ (nd ns n).kind = 3 ∨ (nd ns n).kind = 4 := by
  have := h.kind n hn
  omega
theorem length_part (s : ByteArray) (a b : Nat) (hb : b ≤ s.size) : (part s a b).length = b - a := by
  unfold part
  rw [List.length_drop, List.length_take, bl_length, Nat.min_eq_left hb]
/-- A leaf's plain row: its text is short, and a value. -/
theorem leaf_plain {ns : List Nd} {n : Nat} {a : Arr} {rec : Nat → Arr → Bool} {rd : Nat → Arr → Nat → List UInt8} (hh : Head ns n a) (hp : plainB rec ns n a = true) (hk : (nd ns n).kind = 0 ∨ (nd ns n).kind = 1 ∨ (nd ns n).kind = 2) {row : Nat} (hr : (row : Int) < a.length) (d : Nat) :
    (plainRow rd ns n a (row + a.offset.toNat)).length ≤ 22 ∧ val d (plainRow rd ns n a (row + a.offset.toNat)) = some (plainRow rd ns n a (row + a.offset.toNat)).length ∧
    ∃ ps, partsM (plainRow rd ns n a (row + a.offset.toNat)) = some ((nd ns n).kind, ps) ∧ ((nd ns n).kind = 2 → (ps.getD 0 []).length ≤ 16 ∧ ps ≠ []) := by
  have ho := hh.off
  unfold plainRow plainB at *
  rcases hk with e | e | e
  · have hx := Plain.val_lt (bl a.data) (8 * (row + a.offset.toNat)) 8
    rw [show 256 ^ 8 = 18446744073709551616 from rfl] at hx
    have h64 := signed_in _ hx
    rw [if_pos e]
    refine ⟨length_intM _ h64, val_int d _ h64, _, by rw [e]; exact parts_int _ h64, fun c => ?_⟩
    rw [e] at c
    cases c
  · rw [if_neg (by omega), if_pos e]
    refine ⟨by rw [length_boolM]; omega, val_bool d _, _, by rw [e]; exact parts_bool _, fun c => ?_⟩
    rw [e] at c
    cases c
  · rw [if_neg (by omega), if_neg (by omega), if_pos e] at hp ⊢
    rw [Bool.and_eq_true] at hp
    have hE := endsB_ends hp.2
    have h1 := hE.apart (row + a.offset.toNat) (by unfold rowsOf; omega) (by omega)
    have h2 := hE.last (row + a.offset.toNat + 1) (by unfold rowsOf; omega)
    have hl := length_part a.data (endAt a.ends (row + a.offset.toNat)) (endAt a.ends (row + a.offset.toNat + 1)) (by omega)
    have h16 : (part a.data (endAt a.ends (row + a.offset.toNat)) (endAt a.ends (row + a.offset.toNat + 1))).length ≤ 16 := by omega
    generalize part a.data (endAt a.ends (row + a.offset.toNat)) (endAt a.ends (row + a.offset.toNat + 1)) = q at h16 ⊢
    have hb := length_bytesM _ h16
    have hv : q.length ≤ 9223372036854775807 := by omega
    have hp : (bytesM q).length ≤ 65536 := by omega
    exact ⟨hb, val_bytes d q hv, [q], by rw [e]; exact parts_bytes q hp, fun _ => ⟨by rw [List.getD_cons_zero]; exact h16, List.cons_ne_nil _ _⟩⟩
/-- A leaf's row, however it is laid down. -/
theorem leaf_row {ns : List Nd} {n : Nat} (hk : (nd ns n).kind = 0 ∨ (nd ns n).kind = 1 ∨ (nd ns n).kind = 2) : ∀ (f : Nat) (a : Arr), mayF ns f n a = true → ∀ (row : Nat), (row : Int) < a.length → ∀ d,
    (rowF ns f n a row).length ≤ 22 ∧ val d (rowF ns f n a row) = some (rowF ns f n a row).length ∧
    (rowF ns f n a row = nullM ∧ (nd ns n).null = true ∨ ∃ ps, partsM (rowF ns f n a row) = some ((nd ns n).kind, ps) ∧ ((nd ns n).kind = 2 → (ps.getD 0 []).length ≤ 16 ∧ ps ≠ [])) := by
  intro f
  induction f with
  | zero => intro a h; cases h
  | succ f ih =>
    intro a h row hr d
    obtain ⟨hh, hc⟩ := mayF_cases h
    rw [rowF]
    cases ht : there a (row + a.offset.toNat) with
    | false =>
      rw [if_pos rfl]
      refine ⟨by decide, val_null d, .inl ⟨rfl, ?_⟩⟩
      unfold there at ht
      rw [Bool.or_eq_false_iff, decide_eq_false_iff_not] at ht
      rcases hh.null with c | c
      · exact absurd c ht.1
      · exact c.1
    | true =>
      rw [if_neg (by decide)]
      rcases hc with ⟨hl, hp⟩ | ⟨hl, _, _, _, hm, hd⟩
      · rw [if_pos hl]
        obtain ⟨h1, h2, h3⟩ := leaf_plain (rd := rowF ns f) hh hp hk hr d
        exact ⟨h1, h2, .inr h3⟩
      · rw [if_neg hl]
        rcases hd with ⟨e, hd⟩ | ⟨e, hd⟩
        · rw [if_pos e]
          exact ih (kidAt a 0) hm _ (dict_row hh hd hr ht) d
        · rw [if_neg (by omega)]
          exact ih (kidAt a 0) hm _ (run_row hh hd hr) d
/-- A nest's array is laid down plainly. -/
theorem nest_plain {ns : List Nd} {n f : Nat} {a : Arr} (hk : (nd ns n).kind = 3 ∨ (nd ns n).kind = 4) (h : mayF ns (f + 1) n a = true) : Head ns n a ∧ a.layout = 0 ∧ plainB (mayF ns f) ns n a = true := by
  obtain ⟨hh, ⟨h1, h2⟩ | ⟨_, h2, _⟩⟩ := mayF_cases h
  · exact ⟨hh, h1, h2⟩
  · unfold isLeaf at h2
    rw [decide_eq_true_eq] at h2
    omega
structure IsList (ns : List Nd) (f n : Nat) (a : Arr) : Prop where
  may : mayF ns f (kAt ns n 0) (kidAt a 0) = true
  ends : Ends a.ends (rowsOf a) a.offset (kidAt a 0).length 2147483647
structure IsStruct (ns : List Nd) (f n : Nat) (a : Arr) : Prop where
  may : ∀ i, i < (kids ns n).length → mayF ns f (kAt ns n i) (kidAt a i) = true
  rows : ∀ i, i < (kids ns n).length → (rowsOf a : Int) ≤ (kidAt a i).length
theorem list_of {ns : List Nd} {n f : Nat} {a : Arr} (hk : (nd ns n).kind = 3) (h : plainB (mayF ns f) ns n a = true) : IsList ns f n a := by
  unfold plainB at h
  rw [if_neg (by omega), if_neg (by omega), if_neg (by omega), if_pos hk] at h
  simp only [Bool.and_eq_true] at h
  exact ⟨h.1.2, endsB_ends h.2⟩
theorem struct_of {ns : List Nd} {n f : Nat} {a : Arr} (hk : (nd ns n).kind = 4) (h : plainB (mayF ns f) ns n a = true) : IsStruct ns f n a := by
  unfold plainB at h
  rw [if_neg (by omega), if_neg (by omega), if_neg (by omega), if_neg (by omega)] at h
  simp only [Bool.and_eq_true, List.all_eq_true, decide_eq_true_eq] at h
  exact ⟨fun i hi => (h.2 i (List.mem_range.2 hi)).1, fun i hi => (h.2 i (List.mem_range.2 hi)).2⟩
theorem kAt_mem {ns : List Nd} {n i : Nat} (h : i < (kids ns n).length) : kAt ns n i ∈ kids ns n := by
  unfold kAt
  rw [List.getD_eq_getElem?_getD, List.getElem?_eq_getElem h]
  exact List.getElem_mem h
theorem kid_of {ns : List Nd} (hm : May ns) {n i : Nat} (h : i < (kids ns n).length) : n < kAt ns n i ∧ kAt ns n i < ns.length ∧ depth ns (kAt ns n i) = depth ns n + 1 := by
  have hk := hm.kid (kAt_mem h)
  refine ⟨hk.1, hk.2.1, ?_⟩
  rw [hm.depth_up (by omega) hk.2.1, hk.2.2, Int.toNat_natCast]
theorem sum_getD (g : Nat → Nat) : ∀ (ks : List Nat), (ks.map g).sum = sumTo (fun i => g (ks.getD i 0)) ks.length
  | [] => rfl
  | k :: ks => by
    have h := sumTo_shift (fun i => g ((k :: ks).getD i 0)) 1 ks.length
    rw [List.map_cons, List.sum_cons, sum_getD g ks, List.length_cons, Nat.add_comm ks.length 1, ← h]
    have e : sumTo (fun i => g ((k :: ks).getD i 0)) 1 = g k := by
      show 0 + g k = g k
      omega
    rw [e, Nat.add_comm]
    congr 1
    refine sumTo_congr _ fun j _ => ?_
    rw [Nat.add_comm 1 j]
    rfl
theorem sum_kAt (ns : List Nd) (n : Nat) (g : Nat → Nat) : ((kids ns n).map g).sum = sumTo (fun i => g (kAt ns n i)) (kids ns n).length := sum_getD g (kids ns n)
end Go.Proofs.YthbjeedmhgnnaaaGreat.Arr
namespace Go.Proofs.YthbjeedmhgnnaaaGreat.Arr
open Tree Val Sums

/-- A nest's row: nothing, or what stands within. -/
theorem list_row {ns : List Nd} {n f : Nat} {a : Arr} (hk : (nd ns n).kind = 3) (hl : a.layout = 0) (row : Nat) :
    rowF ns (f + 1) n a row = if there a (row + a.offset.toNat) = false then nullM else listM ((List.range (endAt a.ends (row + a.offset.toNat + 1) - endAt a.ends (row + a.offset.toNat))).map fun j => rowF ns f (kAt ns n 0) (kidAt a 0) (endAt a.ends (row + a.offset.toNat) + j)) := by
  rw [rowF]
  by_cases ht : there a (row + a.offset.toNat) = false
  · rw [if_pos ht, if_pos ht]
  · rw [if_neg ht, if_neg ht, if_pos hl, plainRow, if_neg (by rw [hk]; decide), if_neg (by rw [hk]; decide), if_neg (by rw [hk]; decide), if_pos hk]
theorem struct_row {ns : List Nd} {n f : Nat} {a : Arr} (hk : (nd ns n).kind = 4) (hl : a.layout = 0) (row : Nat) :
    rowF ns (f + 1) n a row = if there a (row + a.offset.toNat) = false then nullM else structM ((List.range (kids ns n).length).map fun i => rowF ns f (kAt ns n i) (kidAt a i) (row + a.offset.toNat)) := by
  rw [rowF]
  by_cases ht : there a (row + a.offset.toNat) = false
  · rw [if_pos ht, if_pos ht]
  · rw [if_neg ht, if_neg ht, if_pos hl, plainRow, if_neg (by rw [hk]; decide), if_neg (by rw [hk]; decide), if_neg (by rw [hk]; decide), if_neg (by rw [hk]; decide)]
theorem list_sum {ns : List Nd} {n f : Nat} {a : Arr} (hk : (nd ns n).kind = 3) (hl : a.layout = 0) (hh : Head ns n a) (hL : IsList ns f n a) : ∀ L : Nat, (L : Int) ≤ a.length →
    sumTo (fun row => (rowF ns (f + 1) n a row).length) L + sumTo (fun j => (rowF ns f (kAt ns n 0) (kidAt a 0) j).length) (endAt a.ends a.offset.toNat) ≤ 2 * L + sumTo (fun j => (rowF ns f (kAt ns n 0) (kidAt a 0) j).length) (endAt a.ends (a.offset.toNat + L)) := by
  have ho := hh.off
  intro L
  induction L with
  | zero => intro _; exact Nat.le_refl _
  | succ L ih =>
    intro h
    have h1 := ih (by omega)
    have hu := hL.ends.up (L + a.offset.toNat) (by unfold rowsOf; omega)
    rw [sumTo, list_row hk hl]
    have hs := sumTo_shift (fun j => (rowF ns f (kAt ns n 0) (kidAt a 0) j).length) (endAt a.ends (L + a.offset.toNat)) (endAt a.ends (L + a.offset.toNat + 1) - endAt a.ends (L + a.offset.toNat))
    rw [show endAt a.ends (L + a.offset.toNat) + (endAt a.ends (L + a.offset.toNat + 1) - endAt a.ends (L + a.offset.toNat)) = endAt a.ends (L + a.offset.toNat + 1) from by omega] at hs
    have hmo := sumTo_mono (fun j => (rowF ns f (kAt ns n 0) (kidAt a 0) j).length) hu
    rw [show a.offset.toNat + (L + 1) = L + a.offset.toNat + 1 from by omega]
    rw [show a.offset.toNat + L = L + a.offset.toNat from by omega] at h1
    split
    · have : nullM.length = 1 := rfl
      omega
    · rw [length_listM, length_flat]
      omega
/-- Each row is a value, as deep as its node allows; all rows together are no longer than that. -/
theorem rows_ok {ns : List Nd} (hm : May ns) : ∀ (f n : Nat) (a : Arr), n < ns.length → mayF ns f n a = true →
    (∀ row : Nat, (row : Int) < a.length → val (4 - depth ns n) (rowF ns f n a row) = some (rowF ns f n a row).length) ∧ sumTo (fun row => (rowF ns f n a row).length) a.length.toNat ≤ hang 1408 ns n := by
  intro f
  induction f with
  | zero => intro n a _ h; cases h
  | succ f ih =>
    intro n a hn h
    have hh := (mayF_cases h).1
    have ho := hh.off
    have hr := hh.rows
    have hle := hh.len
    have hhang := hang_kids hm 1408 hn
    by_cases hleaf : (nd ns n).kind = 0 ∨ (nd ns n).kind = 1 ∨ (nd ns n).kind = 2
    · have hl := leaf_row hleaf (f + 1) a h
      refine ⟨fun row hr => (hl row hr _).2.1, ?_⟩
      have h1 : sumTo (fun row => (rowF ns (f + 1) n a row).length) a.length.toNat ≤ sumTo (fun _ => 22) a.length.toNat := sumTo_le _ fun j hj => (hl j (by omega) 0).1
      rw [sumTo_const] at h1
      omega
    · have hk : (nd ns n).kind = 3 ∨ (nd ns n).kind = 4 := by have := kinds hm hn; omega
      obtain ⟨_, hlay, hp⟩ := nest_plain hk h
      rcases hk with hk | hk
      · have hL := list_of hk hp
        have h1k : 0 < (kids ns n).length := by have := hm.list n hn hk; omega
        obtain ⟨k1, k2, k3⟩ := kid_of hm h1k
        obtain ⟨i1, i2⟩ := ih _ _ k2 hL.may
        have hd := hm.depth_le k2
        refine ⟨fun row hrow => ?_, ?_⟩
        · rw [list_row hk hlay]
          split
          · exact val_null _
          · rw [show 4 - depth ns n = (4 - depth ns (kAt ns n 0)) + 1 from by omega]
            refine val_list _ _ fun v hv => ?_
            obtain ⟨j, hj, rfl⟩ := List.mem_map.1 hv
            rw [List.mem_range] at hj
            refine i1 _ ?_
            have := hL.ends.last (row + a.offset.toNat + 1) (by unfold rowsOf; omega)
            omega
        · have hs := list_sum hk hlay hh hL a.length.toNat (by omega)
          have hlast := hL.ends.last (a.offset.toNat + a.length.toNat) (by unfold rowsOf; omega)
          have hmo := sumTo_mono (fun j => (rowF ns f (kAt ns n 0) (kidAt a 0) j).length) (show endAt a.ends (a.offset.toNat + a.length.toNat) ≤ (kidAt a 0).length.toNat from by omega)
          have ht : hang 1408 ns (kAt ns n 0) ≤ ((kids ns n).map (hang 1408 ns)).sum := by
            rw [sum_kAt]
            exact sumTo_term (fun i => hang 1408 ns (kAt ns n i)) h1k
          omega
      · have hS := struct_of hk hp
        have hkid : ∀ i, i < (kids ns n).length → (∀ row : Nat, (row : Int) < (kidAt a i).length → val (4 - depth ns (kAt ns n i)) (rowF ns f (kAt ns n i) (kidAt a i) row) = some (rowF ns f (kAt ns n i) (kidAt a i) row).length) ∧ sumTo (fun row => (rowF ns f (kAt ns n i) (kidAt a i) row).length) (kidAt a i).length.toNat ≤ hang 1408 ns (kAt ns n i) :=
          fun i hi => ih _ _ (kid_of hm hi).2.1 (hS.may i hi)
        have h1k : 0 < (kids ns n).length := by have := hm.struct n hn hk; omega
        refine ⟨fun row hrow => ?_, ?_⟩
        · rw [struct_row hk hlay]
          split
          · exact val_null _
          · have hd := hm.depth_le (kid_of hm h1k).2.1
            have hd2 := (kid_of hm h1k).2.2
            rw [show 4 - depth ns n = (4 - (depth ns n + 1)) + 1 from by omega]
            refine val_struct _ _ fun v hv => ?_
            obtain ⟨i, hi, rfl⟩ := List.mem_map.1 hv
            rw [List.mem_range] at hi
            have := (hkid i hi).1 (row + a.offset.toNat) (by have := hS.rows i hi; unfold rowsOf at this; omega)
            rw [(kid_of hm hi).2.2] at this
            exact this
        · have h1 : sumTo (fun row => (rowF ns (f + 1) n a row).length) a.length.toNat ≤ sumTo (fun row => 2 + sumTo (fun i => (rowF ns f (kAt ns n i) (kidAt a i) (a.offset.toNat + row)).length) (kids ns n).length) a.length.toNat := by
            refine sumTo_le _ fun row hrow => ?_
            show (rowF ns (f + 1) n a row).length ≤ _
            rw [struct_row hk hlay, show row + a.offset.toNat = a.offset.toNat + row from by omega]
            split
            · have : nullM.length = 1 := rfl
              omega
            · rw [length_structM, length_flat]
              omega
          rw [sumTo_add (fun _ => 2), sumTo_const, sumTo_swap] at h1
          have h2 : sumTo (fun j => sumTo (fun i => (rowF ns f (kAt ns n j) (kidAt a j) (a.offset.toNat + i)).length) a.length.toNat) (kids ns n).length ≤ sumTo (fun i => hang 1408 ns (kAt ns n i)) (kids ns n).length := by
            refine sumTo_le _ fun i hi => ?_
            have hs := sumTo_shift (fun r => (rowF ns f (kAt ns n i) (kidAt a i) r).length) a.offset.toNat a.length.toNat
            have hrows := hS.rows i hi
            unfold rowsOf at hrows
            have hmo := sumTo_mono (fun r => (rowF ns f (kAt ns n i) (kidAt a i) r).length) (show a.offset.toNat + a.length.toNat ≤ (kidAt a i).length.toNat from by omega)
            have := (hkid i hi).2
            show sumTo (fun j => (rowF ns f (kAt ns n i) (kidAt a i) (a.offset.toNat + j)).length) a.length.toNat ≤ hang 1408 ns (kAt ns n i)
            omega
          rw [← sum_kAt] at h2
          omega
theorem row_short {ns : List Nd} (hm : May ns) {f n : Nat} {a : Arr} (hn : n < ns.length) (h : mayF ns f n a = true) {row : Nat} (hr : (row : Int) < a.length) : (rowF ns f n a row).length ≤ 11264 := by
  have h1 := (rows_ok hm f n a hn h).2
  have h2 := sumTo_term (fun row => (rowF ns f n a row).length) (show row < a.length.toNat from by omega)
  have h3 := hang_le hm 1408 hn
  omega
/-- A text of bytes as a string. -/
def mk (l : List UInt8) : ByteArray := ⟨l.toArray⟩
theorem partsS_mk {t : List UInt8} {k : Int} {ps : List (List UInt8)} (h : partsM t = some (k, ps)) : partsS (mk t) = some (k, ps.map mk) := by
  unfold partsS mk
  rw [bl_mk, h]
  rfl
theorem fits_null {ns : List Nd} {g n : Nat} (h : (nd ns n).null = true) : fitsF ns (g + 1) n (mk nullM) = true := by
  rw [fitsF, partsS_mk parts_null]
  show (if (-1 : Int) < 0 then (nd ns n).null else _) = true
  rw [if_pos (by decide), h]
theorem fits_leaf {ns : List Nd} {g n : Nat} {t : List UInt8} {ps : List (List UInt8)} (hk : (nd ns n).kind = 0 ∨ (nd ns n).kind = 1 ∨ (nd ns n).kind = 2) (h : partsM t = some ((nd ns n).kind, ps)) (h2 : (nd ns n).kind = 2 → (ps.getD 0 []).length ≤ 16 ∧ ps ≠ []) : fitsF ns (g + 1) n (mk t) = true := by
  rw [fitsF, partsS_mk h]
  show (if (nd ns n).kind < 0 then _ else if (nd ns n).kind ≠ (nd ns n).kind then false else if (nd ns n).kind = 2 then decide (((ps.map mk).getD 0 ByteArray.empty).size ≤ 16) else if (nd ns n).kind = 3 then _ else if (nd ns n).kind = 4 then _ else true) = true
  rw [if_neg (by omega), if_neg (fun c => c rfl)]
  by_cases e : (nd ns n).kind = 2
  · rw [if_pos e, decide_eq_true_eq]
    obtain ⟨h3, h4⟩ := h2 e
    cases ps with
    | nil => exact absurd rfl h4
    | cons q ps =>
      rw [List.getD_cons_zero] at h3
      rw [List.map_cons, List.getD_cons_zero, ← bl_length]
      unfold mk
      rw [bl_mk]
      exact h3
  · rw [if_neg e, if_neg (by omega), if_neg (by omega)]
theorem fits_list {ns : List Nd} {g n : Nat} {vs : List (List UInt8)} (hk : (nd ns n).kind = 3) (hp : partsM (listM vs) = some (3, vs)) (h64 : vs.length ≤ 64) (hv : ∀ v ∈ vs, fitsF ns g (kAt ns n 0) (mk v) = true) : fitsF ns (g + 1) n (mk (listM vs)) = true := by
  rw [fitsF, partsS_mk hp]
  show (if (3 : Int) < 0 then _ else if (3 : Int) ≠ (nd ns n).kind then false else if (3 : Int) = 2 then _ else if (3 : Int) = 3 then decide ((vs.map mk).length ≤ 64) && (vs.map mk).all (fitsF ns g ((kids ns n).getD 0 0)) else _) = true
  rw [if_neg (by decide), if_neg (fun c => c hk.symm), if_neg (by decide), if_pos rfl, Bool.and_eq_true, decide_eq_true_eq, List.all_eq_true]
  refine ⟨by rw [List.length_map]; exact h64, fun x hx => ?_⟩
  obtain ⟨v, hv', rfl⟩ := List.mem_map.1 hx
  exact hv v hv'
theorem fits_struct {ns : List Nd} {g n : Nat} {r : Nat → List UInt8} (hk : (nd ns n).kind = 4) (hp : partsM (structM ((List.range (kids ns n).length).map r)) = some (4, (List.range (kids ns n).length).map r)) (hv : ∀ i, i < (kids ns n).length → fitsF ns g (kAt ns n i) (mk (r i)) = true) : fitsF ns (g + 1) n (mk (structM ((List.range (kids ns n).length).map r))) = true := by
  rw [fitsF, partsS_mk hp]
  generalize hvs : (List.range (kids ns n).length).map r = vs
  have hl : vs.length = (kids ns n).length := by rw [← hvs]; simp
  have hat : ∀ i, i < (kids ns n).length → vs[i]? = some (r i) := by
    intro i hi
    rw [← hvs, List.getElem?_map, List.getElem?_range hi]
    rfl
  show (if (4 : Int) < 0 then _ else if (4 : Int) ≠ (nd ns n).kind then false else if (4 : Int) = 2 then _ else if (4 : Int) = 3 then _ else if (4 : Int) = 4 then decide ((vs.map mk).length = (kids ns n).length) && ((kids ns n).zip (vs.map mk)).all (fun q => fitsF ns g q.1 q.2) else true) = true
  rw [if_neg (by decide), if_neg (fun c => c hk.symm), if_neg (by decide), if_neg (by decide), if_pos rfl, Bool.and_eq_true, decide_eq_true_eq, List.all_eq_true]
  refine ⟨by rw [List.length_map]; exact hl, fun x hx => ?_⟩
  obtain ⟨i, hi⟩ := List.getElem?_of_mem hx
  rw [List.getElem?_zip_eq_some] at hi
  obtain ⟨h1, h2⟩ := hi
  have hlt : i < (kids ns n).length := (List.getElem?_eq_some_iff.1 h1).1
  rw [List.getElem?_map, hat i hlt] at h2
  have e1 : x.1 = kAt ns n i := by
    unfold kAt
    rw [List.getD_eq_getElem?_getD, h1]
    rfl
  have e2 : x.2 = mk (r i) := by
    injection h2 with h2
    exact h2.symm
  rw [e1, e2]
  exact hv i hlt
end Go.Proofs.YthbjeedmhgnnaaaGreat.Arr
namespace Go.Proofs.YthbjeedmhgnnaaaGreat.Sums

theorem length_all {α β : Type} (h : α → List β) (d : α) : ∀ (l : List α), (l.map h).flatten.length = sumTo (fun j => (h (l.getD j d)).length) l.length
  | [] => rfl
  | x :: l => by
    have hs := sumTo_shift (fun j => (h ((x :: l).getD j d)).length) 1 l.length
    rw [List.map_cons, List.flatten_cons, List.length_append, length_all h d l, List.length_cons, Nat.add_comm l.length 1, ← hs]
    have e : sumTo (fun j => (h ((x :: l).getD j d)).length) 1 = (h x).length := by
      show 0 + (h x).length = _
      omega
    rw [e, Nat.add_comm]
    congr 1
    refine sumTo_congr _ fun j _ => ?_
    rw [Nat.add_comm 1 j, List.getD_cons_succ]
/-- Truths as bits. -/
def ofTo (bs : List Bool) : Nat → List UInt8
  | 0 => List.replicate ((bs.length + 7) / 8) 0
  | k + 1 => if bs.getD k false then BitP.setB (ofTo bs k) k true else ofTo bs k
theorem length_ofTo (bs : List Bool) (k : Nat) : (ofTo bs k).length = (bs.length + 7) / 8 := by
  induction k with
  | zero => simp [ofTo]
  | succ k ih => rw [ofTo]; split <;> simp [BitP.length_setB, ih]
def bitsOf (bs : List Bool) : List UInt8 := ofTo bs bs.length
theorem length_bitsOf (bs : List Bool) : (bitsOf bs).length = (bs.length + 7) / 8 := length_ofTo bs _
end Go.Proofs.YthbjeedmhgnnaaaGreat.Sums
namespace Go.Proofs.YthbjeedmhgnnaaaGreat.Arr
open Tree Val Sums

/-- A value's kind and parts; of what is none nothing. -/
def tellV (v : List UInt8) : Int × List (List UInt8) := (partsM v).getD (0, [])
/-- A node's zero. -/
def zeroF (ns : List Nd) : Nat → Nat → List UInt8
  | 0, _ => []
  | f + 1, n =>
    if (nd ns n).null then nullM
    else if (nd ns n).kind = 0 then intM 0
    else if (nd ns n).kind = 1 then boolM false
    else if (nd ns n).kind = 2 then bytesM []
    else if (nd ns n).kind = 3 then listM []
    else structM ((List.range (kids ns n).length).map fun i => zeroF ns f (kAt ns n i))
/-- The bits of values that are there. -/
def validOf (vs : List (List UInt8)) : List UInt8 := if vs.all (fun v => decide (v ≠ nullM)) then [] else bitsOf (vs.map fun v => decide (v ≠ nullM))
/-- A value's whole number; of nothing 0. -/
def intV (v : List UInt8) : Int := if (tellV v).1 < 0 then 0 else (numOf ((tellV v).2.getD 0 [])).getD 0
def wrapN (x : Int) : Nat := (x % 18446744073709551616).toNat
def dataOf (ns : List Nd) (n : Nat) (vs : List (List UInt8)) : List UInt8 :=
  if (nd ns n).kind = 0 then (vs.map fun v => Plain.low (wrapN (intV v)) 8).flatten
  else if (nd ns n).kind = 1 then bitsOf (vs.map fun v => decide (v = [116]))
  else if (nd ns n).kind = 2 then (vs.map fun v => (tellV v).2.flatten).flatten
  else []
/-- How much each value takes, where there are ends. -/
def sizeV (ns : List Nd) (n : Nat) (v : List UInt8) : Nat := if (nd ns n).kind = 2 then (tellV v).2.flatten.length else (tellV v).2.length
def endsOf (ns : List Nd) (n : Nat) (vs : List (List UInt8)) : List UInt8 :=
  if (nd ns n).kind = 2 ∨ (nd ns n).kind = 3 then ((List.range (vs.length + 1)).map fun i => Plain.low (sumTo (fun j => sizeV ns n (vs.getD j [])) i) 4).flatten else []
/-- A kid's values. -/
def kidRows (ns : List Nd) (n : Nat) (vs : List (List UInt8)) (j : Nat) : List (List UInt8) :=
  if (nd ns n).kind = 3 then (vs.map fun v => (tellV v).2).flatten
  else vs.map fun v => if (tellV v).1 < 0 then zeroF ns 8 (kAt ns n j) else (tellV v).2.getD j []
/-- An array of values that fit; none: it is too much. -/
def buildF (ns : List Nd) : Nat → Nat → List (List UInt8) → Option Arr
  | 0, _, _ => none
  | f + 1, n, vs =>
    if vs.length ≤ 64 ∧ ((List.range (kids ns n).length).all fun j => (buildF ns f (kAt ns n j) (kidRows ns n vs j)).isSome) = true ∧ (dataOf ns n vs).length ≤ 4096 ∧ (endsOf ns n vs).length ≤ 4096 then
      some ⟨0, 0, vs.length, mk (validOf vs), mk (endsOf ns n vs), mk (dataOf ns n vs), (List.range (kids ns n).length).map fun j => (buildF ns f (kAt ns n j) (kidRows ns n vs j)).getD nil⟩
    else none
/-- A value that fits, taken apart. -/
structure Fit (ns : List Nd) (g n : Nat) (v : List UInt8) (ps : List (List UInt8)) : Prop where
  tell : partsM v = some ((nd ns n).kind, ps)
  made : Made (nd ns n).kind ps v
  bytes : (nd ns n).kind = 2 → (ps.getD 0 []).length ≤ 16
  list : (nd ns n).kind = 3 → ps.length ≤ 64 ∧ ∀ p ∈ ps, fitsF ns g (kAt ns n 0) (mk p) = true
  struct : (nd ns n).kind = 4 → ps.length = (kids ns n).length ∧ ∀ i, i < (kids ns n).length → fitsF ns g (kAt ns n i) (mk (ps.getD i [])) = true
theorem partsS_some {v : List UInt8} {k : Int} {qs : List ByteArray} (h : partsS (mk v) = some (k, qs)) : ∃ ps, partsM v = some (k, ps) ∧ qs = ps.map mk := by
  unfold partsS mk at h
  rw [bl_mk] at h
  cases c : partsM v with
  | none => rw [c] at h; cases h
  | some y =>
    obtain ⟨k', ps⟩ := y
    rw [c] at h
    simp only [Option.map_some, Option.some.injEq, Prod.mk.injEq] at h
    obtain ⟨rfl, rfl⟩ := h
    exact ⟨ps, rfl, rfl⟩
theorem isVal_of {v : List UInt8} {y : Int × List (List UInt8)} (h : partsM v = some y) : isVal v := by
  unfold partsM at h
  split at h
  · rename_i c
    exact c
  · cases h
theorem fits_inv {ns : List Nd} {g n : Nat} {v : List UInt8} (h : fitsF ns (g + 1) n (mk v) = true) : (v = nullM ∧ (nd ns n).null = true) ∨ ∃ ps, Fit ns g n v ps := by
  rw [fitsF] at h
  cases c : partsS (mk v) with
  | none => rw [c] at h; cases h
  | some y =>
    obtain ⟨k, qs⟩ := y
    obtain ⟨ps, h1, rfl⟩ := partsS_some c
    rw [c] at h
    obtain ⟨k', ps', h2, h3⟩ := parts_made (isVal_of h1)
    rw [h1] at h2
    injection h2 with h2
    injection h2 with e1 e2
    subst e1 e2
    replace h : (if k < 0 then (nd ns n).null else if k ≠ (nd ns n).kind then false else if k = 2 then decide (((ps.map mk).getD 0 ByteArray.empty).size ≤ 16) else if k = 3 then decide ((ps.map mk).length ≤ 64) && (ps.map mk).all (fitsF ns g ((kids ns n).getD 0 0)) else if k = 4 then decide ((ps.map mk).length = (kids ns n).length) && ((kids ns n).zip (ps.map mk)).all (fun q => fitsF ns g q.1 q.2) else true) = true := h
    by_cases hk : k < 0
    · rw [if_pos hk] at h
      refine .inl ⟨?_, h⟩
      rcases h3 with ⟨_, _, e⟩ | ⟨x, _, e, _⟩ | ⟨b, e, _⟩ | ⟨s, e, _⟩ | ⟨e, _⟩ | ⟨e, _⟩
      · exact e
      all_goals omega
    · rw [if_neg hk] at h
      by_cases hk2 : k ≠ (nd ns n).kind
      · rw [if_pos hk2] at h
        cases h
      · rw [if_neg hk2] at h
        have e : k = (nd ns n).kind := Decidable.not_not.1 hk2
        subst e
        refine .inr ⟨ps, h1, h3, fun e => ?_, fun e => ?_, fun e => ?_⟩
        · rw [if_pos e, decide_eq_true_eq] at h
          cases ps with
          | nil => exact Nat.zero_le _
          | cons q ps =>
            rw [List.map_cons, List.getD_cons_zero, ← bl_length] at h
            unfold mk at h
            rw [bl_mk] at h
            rw [List.getD_cons_zero]
            exact h
        · rw [if_neg (by omega), if_pos e, Bool.and_eq_true, decide_eq_true_eq, List.all_eq_true, List.length_map] at h
          exact ⟨h.1, fun p hp => h.2 (mk p) (List.mem_map_of_mem hp)⟩
        · rw [if_neg (by omega), if_neg (by omega), if_pos e, Bool.and_eq_true, decide_eq_true_eq, List.all_eq_true, List.length_map] at h
          refine ⟨h.1, fun i hi => ?_⟩
          have hm : ((kAt ns n i), mk (ps.getD i [])) ∈ (kids ns n).zip (ps.map mk) := by
            refine List.mem_of_getElem? (i := i) ?_
            rw [List.getElem?_zip_eq_some]
            unfold kAt
            have h2 : i < ps.length := by omega
            rw [List.getElem?_map, List.getElem?_eq_getElem hi, List.getElem?_eq_getElem h2, List.getD_eq_getElem?_getD, List.getElem?_eq_getElem hi, List.getD_eq_getElem?_getD, List.getElem?_eq_getElem h2]
            exact ⟨rfl, rfl⟩
          exact h.2 _ hm
theorem tell_null : tellV nullM = (-1, []) := by
  unfold tellV
  rw [parts_null]
  rfl
theorem Fit.tellV {ns : List Nd} {g n : Nat} {v : List UInt8} {ps : List (List UInt8)} (h : Fit ns g n v ps) : tellV v = ((nd ns n).kind, ps) := by
  unfold Arr.tellV
  rw [h.tell]
  rfl
theorem Fit.ne_null {ns : List Nd} (hm : May ns) {g n : Nat} (hn : n < ns.length) {v : List UInt8} {ps : List (List UInt8)} (h : Fit ns g n v ps) : v ≠ nullM := by
  intro e
  have := h.tellV
  rw [e, tell_null] at this
  have hk := hm.kind n hn
  injection this with e1 _
  omega
end Go.Proofs.YthbjeedmhgnnaaaGreat.Arr
namespace Go.Proofs.YthbjeedmhgnnaaaGreat.Arr
open Tree Val Sums

theorem bl_mk' (l : List UInt8) : bl (mk l) = l := bl_mk l
theorem size_mk (l : List UInt8) : (mk l).size = l.length := by rw [← bl_length, bl_mk']
theorem getD_mem' {vs : List (List UInt8)} {i : Nat} (h : i < vs.length) : vs.getD i [] ∈ vs := by
  rw [List.getD_eq_getElem?_getD, List.getElem?_eq_getElem h]
  exact List.getElem_mem h
/-- What is built, written out. -/
def built (ns : List Nd) (f n : Nat) (vs : List (List UInt8)) : Arr :=
  ⟨0, 0, vs.length, mk (validOf vs), mk (endsOf ns n vs), mk (dataOf ns n vs), (List.range (kids ns n).length).map fun j => (buildF ns f (kAt ns n j) (kidRows ns n vs j)).getD nil⟩
theorem build_some {ns : List Nd} {f n : Nat} {vs : List (List UInt8)} {a : Arr} (h : buildF ns (f + 1) n vs = some a) : a = built ns f n vs ∧ vs.length ≤ 64 ∧ (∀ j, j < (kids ns n).length → ∃ b, buildF ns f (kAt ns n j) (kidRows ns n vs j) = some b ∧ kidAt a j = b) ∧ (dataOf ns n vs).length ≤ 4096 ∧ (endsOf ns n vs).length ≤ 4096 := by
  rw [buildF] at h
  split at h
  · rename_i c
    injection h with h
    refine ⟨h.symm, c.1, fun j hj => ?_, c.2.2⟩
    have := List.all_eq_true.1 c.2.1 j (List.mem_range.2 hj)
    obtain ⟨b, hb⟩ := Option.isSome_iff_exists.1 this
    refine ⟨b, hb, ?_⟩
    rw [← h]
    unfold kidAt
    show ((List.range (kids ns n).length).map fun j => (buildF ns f (kAt ns n j) (kidRows ns n vs j)).getD nil).getD j nil = b
    rw [List.getD_eq_getElem?_getD, List.getElem?_map, List.getElem?_range hj, Option.map_some, hb]
    rfl
  · cases h
/-- Ends of what is built. -/
theorem length_endsOf {ns : List Nd} {n : Nat} {vs : List (List UInt8)} (hk : (nd ns n).kind = 2 ∨ (nd ns n).kind = 3) : (endsOf ns n vs).length = 4 * (vs.length + 1) := by
  unfold endsOf
  rw [if_pos hk, length_all (fun i => Plain.low (sumTo (fun j => sizeV ns n (vs.getD j [])) i) 4) 0, sumTo_congr (h := fun _ => 4) _ (fun j _ => Plain.length_low _ _), sumTo_const, List.length_range]
end Go.Proofs.YthbjeedmhgnnaaaGreat.Arr
namespace Go.Proofs.YthbjeedmhgnnaaaGreat.Arr
open Tree Val Sums

theorem pow8 : (256 : Nat) ^ 8 = 18446744073709551616 := by decide
theorem made_int {v : List UInt8} {ps : List (List UInt8)} (h : Made 0 ps v) : ∃ x, in64 x ∧ ps = [intD x] ∧ v = intM x := by
  rcases h with ⟨e, _⟩ | ⟨x, h1, _, h2, h3⟩ | ⟨b, e, _⟩ | ⟨s, e, _⟩ | ⟨e, _⟩ | ⟨e, _⟩
  · exact absurd e (by decide)
  · exact ⟨x, h1, h2, h3⟩
  all_goals exact absurd e (by decide)
theorem made_bool {v : List UInt8} {ps : List (List UInt8)} (h : Made 1 ps v) : ∃ b, v = boolM b := by
  rcases h with ⟨e, _⟩ | ⟨x, _, e, _⟩ | ⟨b, _, _, h3⟩ | ⟨s, e, _⟩ | ⟨e, _⟩ | ⟨e, _⟩
  · exact absurd e (by decide)
  · exact absurd e (by decide)
  · exact ⟨b, h3⟩
  all_goals exact absurd e (by decide)
theorem made_bytes {v : List UInt8} {ps : List (List UInt8)} (h : Made 2 ps v) : ∃ s, ps = [s] ∧ v = bytesM s := by
  rcases h with ⟨e, _⟩ | ⟨x, _, e, _⟩ | ⟨b, e, _⟩ | ⟨s, _, h2, h3⟩ | ⟨e, _⟩ | ⟨e, _⟩
  · exact absurd e (by decide)
  · exact absurd e (by decide)
  · exact absurd e (by decide)
  · exact ⟨s, h2, h3⟩
  all_goals exact absurd e (by decide)
end Go.Proofs.YthbjeedmhgnnaaaGreat.Arr
namespace Go.Proofs.YthbjeedmhgnnaaaGreat.Arr
open Tree Val Sums

theorem rowF_succ (ns : List Nd) (f n : Nat) (a : Arr) (row : Nat) : rowF ns (f + 1) n a row = if there a (row + a.offset.toNat) = false then nullM
    else if a.layout = 0 then plainRow (rowF ns f) ns n a (row + a.offset.toNat)
    else if a.layout = 1 then rowF ns f n (kidAt a 0) (endAt a.data (row + a.offset.toNat))
    else rowF ns f n (kidAt a 0) (runAt a.data (row + a.offset.toNat) (kidAt a 0).length.toNat 0) := rfl
/-- A part of an array: the same buffers. -/
def cutA (a : Arr) (i c : Nat) : Arr := { a with offset := a.offset + i, length := c }
theorem ends_part {s : ByteArray} {rows rows' : Nat} {first first' last apart : Int} (h : endsB s rows first last apart = true) (hr : rows' ≤ rows) (hf : first ≤ first') : endsB s rows' first' last apart = true := by
  unfold endsB at *
  rw [List.all_eq_true] at *
  intro i hi
  rw [List.mem_range] at hi
  have := (endsP_iff _ _ _ _ _).1 (h i (List.mem_range.2 (by omega)))
  rw [endsP_iff]
  refine ⟨this.1, this.2.1, this.2.2.1, ?_⟩
  rcases this.2.2.2 with c | c
  · exact .inl (by omega)
  · exact .inr c
theorem rows_cut (a : Arr) (i c : Nat) (ho : 0 ≤ a.offset) : rowsOf (cutA a i c) = a.offset.toNat + i + c := by
  unfold rowsOf cutA
  simp only
  omega
theorem may_part {ns : List Nd} {f n : Nat} {a : Arr} (h : mayF ns f n a = true) (i c : Nat) (hi : (i : Int) + c ≤ a.length) : mayF ns f n (cutA a i c) = true := by
  cases f with
  | zero => cases h
  | succ f =>
    have hh := (mayF_cases h).1
    have ho := hh.off
    have hr := hh.rows
    have hl := hh.len
    have hrc := rows_cut a i c ho
    have hra : rowsOf a = (a.offset + a.length).toNat := rfl
    rw [mayF, Bool.and_eq_true] at h ⊢
    constructor
    · have h1 := hh.valid
      have h2 := hh.ends
      have h3 := hh.data
      have h4 := hh.null
      unfold headB
      rw [hrc]
      unfold cutA
      simp only [Bool.and_eq_true, Bool.or_eq_true, decide_eq_true_eq]
      refine ⟨⟨⟨⟨⟨⟨by omega, by omega⟩, by omega⟩, h1⟩, h2⟩, h3⟩, ?_⟩
      rcases h4 with q | q
      · exact .inl q
      · exact .inr ⟨q.1, by omega⟩
    · have h2 := h.2
      have elay : (cutA a i c).layout = a.layout := rfl
      rw [elay]
      by_cases hlay : a.layout = 0
      · rw [if_pos hlay] at h2 ⊢
        unfold plainB bare at h2 ⊢
        rw [hrc]
        have e1 : (cutA a i c).ends = a.ends := rfl
        have e2 : (cutA a i c).kids = a.kids := rfl
        have e3 : (cutA a i c).data = a.data := rfl
        have e4 : ∀ j, kidAt (cutA a i c) j = kidAt a j := fun _ => rfl
        have e5 : (cutA a i c).offset = a.offset + i := rfl
        rw [e1, e2, e3, e5]
        by_cases c0 : (nd ns n).kind = 0
        · rw [if_pos c0] at h2 ⊢
          simp only [Bool.and_eq_true, decide_eq_true_eq] at h2 ⊢
          exact ⟨h2.1, by omega⟩
        · rw [if_neg c0] at h2 ⊢
          by_cases c1 : (nd ns n).kind = 1
          · rw [if_pos c1] at h2 ⊢
            simp only [Bool.and_eq_true, decide_eq_true_eq] at h2 ⊢
            exact ⟨h2.1, by omega⟩
          · rw [if_neg c1] at h2 ⊢
            by_cases c2 : (nd ns n).kind = 2
            · rw [if_pos c2] at h2 ⊢
              rw [Bool.and_eq_true] at h2 ⊢
              exact ⟨h2.1, ends_part h2.2 (by omega) (by omega)⟩
            · rw [if_neg c2] at h2 ⊢
              by_cases c3 : (nd ns n).kind = 3
              · rw [if_pos c3] at h2 ⊢
                rw [Bool.and_eq_true] at h2 ⊢
                exact ⟨h2.1, ends_part h2.2 (by omega) (by omega)⟩
              · rw [if_neg c3] at h2 ⊢
                simp only [Bool.and_eq_true, List.all_eq_true, decide_eq_true_eq] at h2 ⊢
                refine ⟨h2.1, fun j hj => ⟨(h2.2 j hj).1, ?_⟩⟩
                have := (h2.2 j hj).2
                rw [e4]
                omega
      · rw [if_neg hlay] at h2 ⊢
        rw [Bool.and_eq_true] at h2 ⊢
        refine ⟨h2.1, ?_⟩
        have h3 := h2.2
        by_cases d1 : a.layout = 1
        · rw [if_pos d1] at h3 ⊢
          unfold dictB at h3 ⊢
          rw [hrc]
          have e3 : (cutA a i c).data = a.data := rfl
          have e4 : kidAt (cutA a i c) 0 = kidAt a 0 := rfl
          have e5 : (cutA a i c).offset = a.offset + i := rfl
          have e6 : ∀ j, there (cutA a i c) j = there a j := fun _ => rfl
          rw [e3, e4, e5]
          simp only [Bool.and_eq_true, Bool.or_eq_true, decide_eq_true_eq, List.all_eq_true, e6] at h3 ⊢
          refine ⟨⟨by omega, h3.1.2⟩, fun j hj => ?_⟩
          rw [List.mem_range] at hj
          rcases h3.2 j (List.mem_range.2 (by omega)) with q | q
          · rcases q with q | q
            · exact .inl (.inl (by omega))
            · exact .inl (.inr q)
          · exact .inr q
        · rw [if_neg d1] at h3 ⊢
          by_cases d2 : a.layout = 2
          · rw [if_pos d2] at h3 ⊢
            unfold runB at h3 ⊢
            rw [hrc]
            have e3 : (cutA a i c).data = a.data := rfl
            have e4 : kidAt (cutA a i c) 0 = kidAt a 0 := rfl
            have e5 : (cutA a i c).valid = a.valid := rfl
            rw [e3, e4, e5]
            simp only [Bool.and_eq_true, decide_eq_true_eq] at h3 ⊢
            exact ⟨h3.1, by omega⟩
          · rw [if_neg d2] at h3
            cases h3
/-- The rows of a part are those of the whole. -/
theorem row_part {ns : List Nd} {f n : Nat} {a : Arr} (ho : 0 ≤ a.offset) (i c row : Nat) : rowF ns f n (cutA a i c) row = rowF ns f n a (i + row) := by
  cases f with
  | zero => rfl
  | succ f =>
    rw [rowF, rowF]
    have e : row + (cutA a i c).offset.toNat = i + row + a.offset.toNat := by
      show row + (a.offset + i).toNat = _
      omega
    rw [e]
    rfl
end Go.Proofs.YthbjeedmhgnnaaaGreat.Arr
namespace Go.Proofs.YthbjeedmhgnnaaaGreat.Arr
open Tree Val Sums

/-- All of them fit. -/
def AllFit (ns : List Nd) (g n : Nat) (vs : List (List UInt8)) : Prop := ∀ v ∈ vs, fitsF ns g n (mk v) = true
/-- Values that fit can be built if there are not too many, and those within can. -/
theorem build_iff {ns : List Nd} {f g n : Nat} {vs : List (List UInt8)} (h : AllFit ns (g + 1) n vs) : (buildF ns (f + 1) n vs).isSome = true ↔ vs.length ≤ 64 ∧ ∀ j, j < (kids ns n).length → (buildF ns f (kAt ns n j) (kidRows ns n vs j)).isSome = true := by
  have hfit : ∀ v ∈ vs, (v = nullM ∧ (nd ns n).null = true) ∨ ∃ ps, Fit ns g n v ps := fun v hv => fits_inv (h v hv)
  constructor
  · intro hs
    obtain ⟨a, ha⟩ := Option.isSome_iff_exists.1 hs
    obtain ⟨_, h1, h2, _⟩ := build_some ha
    refine ⟨h1, fun j hj => ?_⟩
    obtain ⟨b, hb, _⟩ := h2 j hj
    rw [hb]
    rfl
  · rintro ⟨h1, h2⟩
    have hd : (dataOf ns n vs).length ≤ 4096 := by
      unfold dataOf
      split
      · rw [length_all (fun v => Plain.low (wrapN (intV v)) 8) [], sumTo_congr (h := fun _ => 8) _ (fun j _ => Plain.length_low _ _), sumTo_const]
        omega
      · split
        · rw [length_bitsOf, List.length_map]
          omega
        · split
          · rename_i e
            rw [length_all (fun v => (tellV v).2.flatten) []]
            have hs := sumTo_le (g := fun j => ((tellV (vs.getD j [])).2.flatten).length) (h := fun _ => 16) vs.length (fun i hi => by
              rcases hfit _ (getD_mem' hi) with q | ⟨ps, hF⟩
              · rw [q.1, tell_null]
                exact Nat.zero_le _
              · have hmade := hF.made
                rw [e] at hmade
                obtain ⟨s, hps, _⟩ := made_bytes hmade
                have := hF.bytes e
                rw [hps, List.getD_cons_zero] at this
                rw [hF.tellV, hps]
                simp only [List.flatten_cons, List.flatten_nil, List.append_nil]
                exact this)
            rw [sumTo_const] at hs
            omega
          · exact Nat.zero_le _
    have he : (endsOf ns n vs).length ≤ 4096 := by
      by_cases hk : (nd ns n).kind = 2 ∨ (nd ns n).kind = 3
      · rw [length_endsOf hk]
        omega
      · unfold endsOf
        rw [if_neg hk]
        exact Nat.zero_le _
    rw [buildF, if_pos ⟨h1, List.all_eq_true.2 (fun j hj => h2 j (List.mem_range.1 hj)), hd, he⟩]
    rfl
end Go.Proofs.YthbjeedmhgnnaaaGreat.Arr
namespace Go.Proofs.YthbjeedmhgnnaaaGreat.Arr
open Tree Val Sums

theorem leaf_kids {ns : List Nd} (hm : May ns) {n : Nat} (hn : n < ns.length) (hk : isLeaf (nd ns n).kind = true) : kids ns n = [] := hm.leaf n hn hk
theorem leaf_build {ns : List Nd} (hm : May ns) {f g n : Nat} {vs : List (List UInt8)} (hn : n < ns.length) (hk : isLeaf (nd ns n).kind = true) (h : AllFit ns (g + 1) n vs) (h64 : vs.length ≤ 64) : buildF ns (f + 1) n vs = some (built ns f n vs) := by
  have : (buildF ns (f + 1) n vs).isSome = true := (build_iff h).2 ⟨h64, fun j hj => by rw [leaf_kids hm hn hk] at hj; cases hj⟩
  obtain ⟨a, ha⟩ := Option.isSome_iff_exists.1 this
  rw [ha, (build_some ha).1]
theorem valid_len (vs : List (List UInt8)) : (validOf vs).length = 0 ∨ (validOf vs).length = (vs.length + 7) / 8 ∧ ∃ v ∈ vs, v = nullM := by
  unfold validOf
  split
  · exact .inl rfl
  · rename_i c
    right
    rw [length_bitsOf, List.length_map]
    refine ⟨rfl, ?_⟩
    rw [List.all_eq_true] at c
    apply Classical.byContradiction
    intro q
    apply c
    intro v hv
    rw [decide_eq_true_eq]
    exact fun e => q ⟨v, hv, e⟩
end Go.Proofs.YthbjeedmhgnnaaaGreat.Arr
