/-
  The way from a node up to the first one: its length, its levels; what a type may be, asked as the program asks it.
-/
import Derived.Test.YtejgjipmnmfkcaaGreatDoorTree
namespace Go.Proofs.YtejgjipmnmfkcaaGreatDoor.Tree

/-- The nodes up to k stand each behind its parent. -/
structure Up (l : List Nd) (k : Nat) : Prop where
  first : (nd l 0).par = -1
  par : ∀ i, 1 ≤ i → i ≤ k → 0 ≤ (nd l i).par ∧ (nd l i).par < i
theorem Up.depth_up {l : List Nd} {k : Nat} (h : Up l k) {i : Nat} (h1 : 1 ≤ i) (hi : i ≤ k) : depth l i = depth l (nd l i).par.toNat + 1 := by
  have hp := h.par i h1 hi
  unfold depth
  rw [row_eq, depthF, if_neg (by omega), tab_at _ _ _ (by omega)]
theorem Up.rep_up {l : List Nd} {k : Nat} (h : Up l k) {i : Nat} (h1 : 1 ≤ i) (hi : i ≤ k) : rep l i = rep1 (nd l i) + rep l (nd l i).par.toNat := by
  have hp := h.par i h1 hi
  unfold rep
  rw [row_eq, repF, if_neg (by omega), tab_at _ _ _ (by omega)]
theorem Up.dfn_up {l : List Nd} {k : Nat} (h : Up l k) {i : Nat} (h1 : 1 ≤ i) (hi : i ≤ k) : dfn l i = def1 (nd l i) + dfn l (nd l i).par.toNat := by
  have hp := h.par i h1 hi
  unfold dfn
  rw [row_eq, defF, if_neg (by omega), tab_at _ _ _ (by omega)]
theorem depth_first (l : List Nd) : depth l 0 = 0 := by
  unfold depth
  rw [row_eq, depthF, if_pos rfl]
theorem Up.depth_le {l : List Nd} {k : Nat} (h : Up l k) : ∀ i, i ≤ k → depth l i ≤ i := by
  intro i
  induction i using Nat.strongRecOn with
  | ind i ih =>
    intro hi
    by_cases e : i = 0
    · subst e; rw [depth_first]; omega
    · have hp := h.par i (by omega) hi
      rw [h.depth_up (by omega) hi]
      have := ih (nd l i).par.toNat (by omega) (by omega)
      omega
def nul1 (n : Nd) : Nat := if n.null then 1 else 0
theorem def1_eq (n : Nd) : def1 n = rep1 n + nul1 n := rfl
def sumR : List Nd → Nat
  | [] => 0
  | n :: l => rep1 n + sumR l
def sumN : List Nd → Nat
  | [] => 0
  | n :: l => nul1 n + sumN l
theorem sumR_app (a b : List Nd) : sumR (a ++ b) = sumR a + sumR b := by
  induction a with
  | nil => simp [sumR]
  | cons n a ih => simp [sumR, ih]; omega
theorem sumN_app (a b : List Nd) : sumN (a ++ b) = sumN a + sumN b := by
  induction a with
  | nil => simp [sumN]
  | cons n a ih => simp [sumN, ih]; omega
theorem sumR_one (n : Nd) : sumR [n] = rep1 n := rfl
theorem sumN_one (n : Nd) : sumN [n] = nul1 n := rfl
/-- What has been gathered on the way from a up, when z is asked next. -/
def WayInv (l : List Nd) (a : Nat) (p : List Nd) (z : Int) : Prop :=
  (z = -1 ∧ p.length = depth l a + 1 ∧ sumR p = rep l a ∧ sumR p + sumN p = dfn l a) ∨
  ∃ k : Nat, k ≤ a ∧ z = k ∧ p.length + depth l k = depth l a ∧ sumR p + rep l k = rep l a ∧ sumR p + sumN p + dfn l k = dfn l a
theorem WayInv.start (l : List Nd) (a : Nat) : WayInv l a [] a := .inr ⟨a, Nat.le_refl _, rfl, by simp, by simp [sumR], by simp [sumR, sumN]⟩
theorem WayInv.more {l : List Nd} {a k : Nat} {p : List Nd} (hu : Up l a) (h : WayInv l a p k) : k ≤ a ∧ p.length ≤ a ∧ WayInv l a (p ++ [nd l k]) (nd l k).par ∧ -1 ≤ (nd l k).par ∧ (nd l k).par < k := by
  rcases h with h | ⟨k', h1, h2, h3, h4, h5⟩
  · omega
  obtain rfl : k = k' := by omega
  have hd := hu.depth_le a (Nat.le_refl _)
  refine ⟨h1, by omega, ?_, ?_⟩
  · by_cases e : k = 0
    · subst e
      rw [depth_first] at h3
      rw [rep_first] at h4
      rw [dfn_first, def1_eq] at h5
      refine .inl ⟨hu.first, ?_, ?_, ?_⟩
      · rw [List.length_append]; simp; omega
      · rw [sumR_app, sumR_one]; omega
      · rw [sumR_app, sumN_app, sumR_one, sumN_one]; omega
    · have hp := hu.par k (by omega) h1
      rw [hu.depth_up (by omega) h1] at h3
      rw [hu.rep_up (by omega) h1] at h4
      rw [hu.dfn_up (by omega) h1, def1_eq] at h5
      refine .inr ⟨(nd l k).par.toNat, by omega, by omega, ?_, ?_, ?_⟩
      · rw [List.length_append]; simp; omega
      · rw [sumR_app, sumR_one]; omega
      · rw [sumR_app, sumN_app, sumR_one, sumN_one]; omega
  · by_cases e : k = 0
    · subst e; rw [hu.first]; omega
    · have hp := hu.par k (by omega) h1
      omega
theorem WayInv.done {l : List Nd} {a : Nat} {p : List Nd} {z : Int} (h : WayInv l a p z) (hz : z < 0) : p.length = depth l a + 1 ∧ sumR p = rep l a ∧ sumR p + sumN p = dfn l a := by
  rcases h with h | ⟨k', h1, h2, h3, h4, h5⟩
  · exact h.2
  · omega

/-- Does node i hang where it may? -/
def hangB (l : List Nd) (i : Nat) : Bool :=
  decide (0 ≤ (nd l i).kind ∧ (nd l i).kind ≤ 4) && (if i = 0 then decide ((nd l 0).par = -1) else decide (0 ≤ (nd l i).par ∧ (nd l i).par < i) && decide (depth l i + 1 ≤ 5))
def manyB (k : Int) (n : Nat) : Bool := if k = 3 then decide (n = 1) else if k = 4 then decide (1 ≤ n) else decide (n = 0)
def many (l : List Nd) (i : Nat) : Bool := manyB (nd l i).kind (kids l i).length
def allTo (f : Nat → Bool) : Nat → Bool
  | 0 => true
  | k + 1 => allTo f k && f k
theorem allTo_at {f : Nat → Bool} {k i : Nat} (h : allTo f k = true) (hi : i < k) : f i = true := by
  induction k with
  | zero => omega
  | succ k ih =>
    rw [allTo, Bool.and_eq_true] at h
    by_cases e : i = k
    · rw [e]; exact h.2
    · exact ih h.1 (by omega)
theorem allTo_of {f : Nat → Bool} {k : Nat} (h : ∀ i, i < k → f i = true) : allTo f k = true := by
  induction k with
  | zero => rfl
  | succ k ih => rw [allTo, ih (fun i hi => h i (by omega)), h k (by omega)]; rfl
theorem allTo_no {f : Nat → Bool} {k i : Nat} (hi : i < k) (h : f i = false) : allTo f k = false := by
  cases e : allTo f k
  · rfl
  · rw [allTo_at e hi] at h; cases h
theorem up_of_hang {l : List Nd} {k : Nat} (h1 : 1 ≤ k) (h : ∀ i, i < k → hangB l i = true) : Up l (k - 1) := by
  constructor
  · have := h 0 (by omega)
    unfold hangB at this
    rw [Bool.and_eq_true, if_pos rfl, decide_eq_true_eq, decide_eq_true_eq] at this
    exact this.2
  · intro i hi hk
    have := h i (by omega)
    unfold hangB at this
    rw [Bool.and_eq_true, if_neg (by omega), Bool.and_eq_true, decide_eq_true_eq, decide_eq_true_eq] at this
    exact this.2.1
/-- The way of asking that the program has. -/
def mayP (l : List Nd) : Bool := decide (1 ≤ l.length ∧ l.length ≤ 8) && (allTo (hangB l) l.length && allTo (many l) l.length)
theorem may_eq (l : List Nd) : mayP l = may l := by
  rw [Bool.eq_iff_iff]
  constructor
  · intro h
    unfold mayP at h
    rw [Bool.and_eq_true, Bool.and_eq_true, decide_eq_true_eq] at h
    obtain ⟨⟨h1, h8⟩, hh, hm⟩ := h
    have hu := up_of_hang h1 (fun i hi => allTo_at hh hi)
    unfold may headOk
    rw [Bool.and_eq_true, Bool.and_eq_true, decide_eq_true_eq, decide_eq_true_eq]
    refine ⟨⟨⟨h1, h8⟩, hu.first⟩, okTo_all _ _ fun i hi => ?_⟩
    have a := allTo_at hh hi
    have b := allTo_at hm hi
    unfold many manyB at b
    unfold hangB at a
    unfold okAt
    rw [Bool.and_eq_true] at a
    rw [Bool.and_eq_true, Bool.and_eq_true]
    refine ⟨⟨a.1, ?_⟩, ?_⟩
    · unfold isLeaf
      generalize (kids l i).length = n at *
      generalize (nd l i).kind = q at *
      simp only [Bool.not_eq_true', Bool.or_eq_false_iff, Bool.and_eq_false_iff, decide_eq_false_iff_not]
      split at b
      · rw [decide_eq_true_eq] at b
        refine ⟨⟨?_, ?_⟩, ?_⟩ <;> omega
      · split at b
        · rw [decide_eq_true_eq] at b
          refine ⟨⟨?_, ?_⟩, ?_⟩ <;> omega
        · rw [decide_eq_true_eq] at b
          refine ⟨⟨?_, ?_⟩, ?_⟩ <;> omega
    · by_cases e : i = 0
      · simp [e]
      · have c := a.2
        rw [if_neg e, Bool.and_eq_true, decide_eq_true_eq, decide_eq_true_eq, hu.depth_up (by omega) (by omega)] at c
        rw [Bool.or_eq_true, Bool.and_eq_true, decide_eq_true_eq, decide_eq_true_eq, decide_eq_true_eq]
        exact .inr ⟨c.1, by omega⟩
  · intro h
    have hm := may_of h
    unfold mayP
    rw [Bool.and_eq_true, Bool.and_eq_true, decide_eq_true_eq]
    refine ⟨⟨hm.one, hm.most⟩, allTo_of fun i hi => ?_, allTo_of fun i hi => ?_⟩
    · unfold hangB
      rw [Bool.and_eq_true, decide_eq_true_eq]
      refine ⟨hm.kind i hi, ?_⟩
      by_cases e : i = 0
      · rw [if_pos e, decide_eq_true_eq]; exact hm.first
      · rw [if_neg e, Bool.and_eq_true, decide_eq_true_eq, decide_eq_true_eq]
        have := hm.depth_le hi
        exact ⟨hm.par i (by omega) hi, by omega⟩
    · unfold many manyB
      split
      · rename_i c; rw [decide_eq_true_eq]; exact hm.list i hi c
      · split
        · rename_i c; rw [decide_eq_true_eq]; exact hm.struct i hi c
        · rename_i c d
          rw [decide_eq_true_eq, hm.leaf i hi (decide_eq_true ⟨c, d⟩)]
          rfl
end Go.Proofs.YtejgjipmnmfkcaaGreatDoor.Tree
