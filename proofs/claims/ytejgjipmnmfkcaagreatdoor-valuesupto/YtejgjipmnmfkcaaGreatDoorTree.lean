/-
  Trees of nodes as plain lists: kids, leaves, depth, levels; what a type may be; what holds of each.
-/
import Derived.WalkKit
namespace Go.Proofs.YtejgjipmnmfkcaaGreatDoor.Tree

/-- A node: its kind, its parent, whether it may be nothing. -/
structure Nd where
  kind : Int
  par : Int
  null : Bool
/-- Node i, or an empty one. -/
def nd (ns : List Nd) (i : Nat) : Nd := ns.getD i ⟨0, 0, false⟩
/-- The kids of a, among the first k nodes. -/
def kidsTo (ns : List Nd) (a : Int) : Nat → List Nat
  | 0 => []
  | k + 1 => if 1 ≤ k ∧ (nd ns k).par = a then kidsTo ns a k ++ [k] else kidsTo ns a k
def kids (ns : List Nd) (a : Int) : List Nat := kidsTo ns a ns.length
def isLeaf (k : Int) : Bool := decide (k ≠ 3 ∧ k ≠ 4)
def leavesTo (ns : List Nd) : Nat → List Nat
  | 0 => []
  | k + 1 => if isLeaf (nd ns k).kind then leavesTo ns k ++ [k] else leavesTo ns k
def leaves (ns : List Nd) : List Nat := leavesTo ns ns.length
/-- A table in which each row is made of those ahead of it. -/
def tab (f : Nat → (Nat → Nat) → Nat) : Nat → List Nat
  | 0 => []
  | k + 1 => tab f k ++ [f k (fun j => (tab f k).getD j 0)]
def row (f : Nat → (Nat → Nat) → Nat) (i : Nat) : Nat := (tab f (i + 1)).getD i 0
theorem length_tab (f : Nat → (Nat → Nat) → Nat) (k : Nat) : (tab f k).length = k := by
  induction k with
  | zero => rfl
  | succ k ih => rw [tab, List.length_append, ih]; rfl
theorem tab_at (f : Nat → (Nat → Nat) → Nat) (k j : Nat) (h : j < k) : (tab f k).getD j 0 = row f j := by
  induction k with
  | zero => omega
  | succ k ih =>
    by_cases e : j = k
    · rw [e]; rfl
    · rw [tab, List.getD_eq_getElem?_getD, List.getElem?_append_left (by rw [length_tab]; omega), ← List.getD_eq_getElem?_getD]
      exact ih (by omega)
theorem row_eq (f : Nat → (Nat → Nat) → Nat) (i : Nat) : row f i = f i (fun j => (tab f i).getD j 0) := by
  unfold row
  rw [tab, List.getD_eq_getElem?_getD, List.getElem?_append_right (by rw [length_tab]; omega), length_tab]
  simp

/-- How far a node lies below the first one. -/
def depthF (ns : List Nd) (i : Nat) (g : Nat → Nat) : Nat := if i = 0 then 0 else g (nd ns i).par.toNat + 1
def depth (ns : List Nd) (i : Nat) : Nat := row (depthF ns) i
def rep1 (n : Nd) : Nat := if n.kind = 3 then 1 else 0
def def1 (n : Nd) : Nat := (if n.kind = 3 then 1 else 0) + if n.null then 1 else 0
def repF (ns : List Nd) (i : Nat) (g : Nat → Nat) : Nat := rep1 (nd ns i) + if i = 0 then 0 else g (nd ns i).par.toNat
def defF (ns : List Nd) (i : Nat) (g : Nat → Nat) : Nat := def1 (nd ns i) + if i = 0 then 0 else g (nd ns i).par.toNat
def rep (ns : List Nd) (i : Nat) : Nat := row (repF ns) i
def dfn (ns : List Nd) (i : Nat) : Nat := row (defF ns) i

/-- May node i stand where it stands? -/
def okAt (ns : List Nd) (i : Nat) : Bool :=
  decide (0 ≤ (nd ns i).kind ∧ (nd ns i).kind ≤ 4) &&
  (!(isLeaf (nd ns i).kind && decide (0 < (kids ns i).length) || decide ((nd ns i).kind = 3) && decide ((kids ns i).length ≠ 1) || decide ((nd ns i).kind = 4) && decide ((kids ns i).length < 1))) &&
  (decide (i = 0) || decide (0 ≤ (nd ns i).par ∧ (nd ns i).par < i) && decide (depth ns (nd ns i).par.toNat < 4))
def okTo (ns : List Nd) : Nat → Bool
  | 0 => true
  | k + 1 => okTo ns k && okAt ns k
def headOk (ns : List Nd) : Bool := decide (1 ≤ ns.length ∧ ns.length ≤ 8) && decide ((nd ns 0).par = -1)
def may (ns : List Nd) : Bool := headOk ns && okTo ns ns.length

theorem okTo_at (ns : List Nd) (k i : Nat) (h : okTo ns k = true) (hi : i < k) : okAt ns i = true := by
  induction k with
  | zero => omega
  | succ k ih =>
    rw [okTo, Bool.and_eq_true] at h
    by_cases e : i = k
    · rw [e]; exact h.2
    · exact ih h.1 (by omega)
theorem okTo_all (ns : List Nd) (k : Nat) (h : ∀ i, i < k → okAt ns i = true) : okTo ns k = true := by
  induction k with
  | zero => rfl
  | succ k ih => rw [okTo, ih (fun i hi => h i (by omega)), h k (by omega)]; rfl
theorem okTo_no (ns : List Nd) (k i : Nat) (hi : i < k) (h : okAt ns i = false) : okTo ns k = false := by
  cases e : okTo ns k
  · rfl
  · rw [okTo_at ns k i e hi] at h; cases h

/-- What a type that may be has. -/
structure May (ns : List Nd) : Prop where
  one : 1 ≤ ns.length
  most : ns.length ≤ 8
  first : (nd ns 0).par = -1
  kind : ∀ i, i < ns.length → 0 ≤ (nd ns i).kind ∧ (nd ns i).kind ≤ 4
  leaf : ∀ i, i < ns.length → isLeaf (nd ns i).kind = true → kids ns i = []
  list : ∀ i, i < ns.length → (nd ns i).kind = 3 → (kids ns i).length = 1
  struct : ∀ i, i < ns.length → (nd ns i).kind = 4 → 1 ≤ (kids ns i).length
  par : ∀ i, 1 ≤ i → i < ns.length → 0 ≤ (nd ns i).par ∧ (nd ns i).par < i
  deep : ∀ i, 1 ≤ i → i < ns.length → depth ns (nd ns i).par.toNat < 4
theorem may_of {ns : List Nd} (h : may ns = true) : May ns := by
  unfold may headOk at h
  simp only [Bool.and_eq_true, decide_eq_true_eq] at h
  obtain ⟨⟨⟨h1, h2⟩, h3⟩, h4⟩ := h
  have hk : ∀ i, i < ns.length → okAt ns i = true := fun i hi => okTo_at ns _ i h4 hi
  unfold okAt at hk
  refine ⟨h1, h2, h3, fun i hi => ?_, fun i hi e => ?_, fun i hi e => ?_, fun i hi e => ?_, fun i h0 hi => ?_, fun i h0 hi => ?_⟩
  all_goals
    have := hk i hi
    simp only [Bool.and_eq_true, Bool.or_eq_true, Bool.not_eq_true', Bool.or_eq_false_iff, Bool.and_eq_false_iff, decide_eq_true_eq, decide_eq_false_iff_not] at this
    obtain ⟨⟨a, ⟨b, c⟩, d⟩, e'⟩ := this
  · exact a
  · rcases b with b | b
    · rw [e] at b; cases b
    · exact List.eq_nil_of_length_eq_zero (by omega)
  · rcases c with c | c
    · exact absurd e c
    · omega
  · rcases d with d | d
    · exact absurd e d
    · omega
  · rcases e' with e' | e'
    · omega
    · exact e'.1
  · rcases e' with e' | e'
    · omega
    · exact e'.2

theorem mem_kidsTo (ns : List Nd) (a : Int) (k j : Nat) : j ∈ kidsTo ns a k ↔ 1 ≤ j ∧ j < k ∧ (nd ns j).par = a := by
  induction k with
  | zero => simp [kidsTo]
  | succ k ih =>
    rw [kidsTo]
    split
    · rename_i h
      rw [List.mem_append, ih, List.mem_singleton]
      constructor
      · rintro (h' | rfl)
        · exact ⟨h'.1, by omega, h'.2.2⟩
        · exact ⟨h.1, by omega, h.2⟩
      · intro h'
        by_cases e : j = k
        · exact .inr e
        · exact .inl ⟨h'.1, by omega, h'.2.2⟩
    · rename_i h
      rw [ih]
      constructor
      · intro h'
        exact ⟨h'.1, by omega, h'.2.2⟩
      · intro h'
        refine ⟨h'.1, ?_, h'.2.2⟩
        by_cases e : j = k
        · subst e
          exact absurd ⟨h'.1, h'.2.2⟩ h
        · omega
theorem mem_leavesTo (ns : List Nd) (k j : Nat) : j ∈ leavesTo ns k ↔ j < k ∧ isLeaf (nd ns j).kind = true := by
  induction k with
  | zero => simp [leavesTo]
  | succ k ih =>
    rw [leavesTo]
    split
    · rename_i h
      rw [List.mem_append, ih, List.mem_singleton]
      constructor
      · rintro (h' | rfl)
        · exact ⟨by omega, h'.2⟩
        · exact ⟨by omega, h⟩
      · intro h'
        by_cases e : j = k
        · exact .inr e
        · exact .inl ⟨by omega, h'.2⟩
    · rename_i h
      rw [ih]
      constructor
      · intro h'
        exact ⟨by omega, h'.2⟩
      · intro h'
        refine ⟨?_, h'.2⟩
        by_cases e : j = k
        · subst e
          exact absurd h'.2 h
        · omega
theorem rising_kidsTo (ns : List Nd) (a : Int) (k : Nat) : (kidsTo ns a k).Pairwise (· < ·) := by
  induction k with
  | zero => exact List.Pairwise.nil
  | succ k ih =>
    rw [kidsTo]
    split
    · rw [List.pairwise_append]
      refine ⟨ih, List.pairwise_singleton _ _, fun x hx y hy => ?_⟩
      rw [List.mem_singleton] at hy
      have := (mem_kidsTo ns a k x).1 hx
      omega
    · exact ih
theorem length_kidsTo (ns : List Nd) (a : Int) (k : Nat) : (kidsTo ns a k).length ≤ k := by
  induction k with
  | zero => exact Nat.le_refl _
  | succ k ih =>
    rw [kidsTo]
    split
    · rw [List.length_append]
      exact Nat.succ_le_succ ih
    · omega
theorem length_leavesTo (ns : List Nd) (k : Nat) : (leavesTo ns k).length ≤ k := by
  induction k with
  | zero => exact Nat.le_refl _
  | succ k ih =>
    rw [leavesTo]
    split
    · rw [List.length_append]
      exact Nat.succ_le_succ ih
    · omega
/-- The leaves ahead of k are the first ones of all. -/
theorem leavesTo_head (ns : List Nd) (k m : Nat) (h : k ≤ m) : ∃ r, leavesTo ns m = leavesTo ns k ++ r := by
  induction m with
  | zero =>
    obtain rfl : k = 0 := by omega
    exact ⟨[], rfl⟩
  | succ m ih =>
    by_cases e : k = m + 1
    · subst e; exact ⟨[], by simp⟩
    · obtain ⟨r, hr⟩ := ih (by omega)
      rw [leavesTo]
      split
      · exact ⟨r ++ [m], by rw [hr, List.append_assoc]⟩
      · exact ⟨r, hr⟩
theorem leaf_at (ns : List Nd) (i : Nat) (hi : i < ns.length) (h : isLeaf (nd ns i).kind = true) : (leavesTo ns i).length < (leaves ns).length ∧ (leaves ns).getD (leavesTo ns i).length 0 = i := by
  obtain ⟨r, hr⟩ := leavesTo_head ns (i + 1) ns.length hi
  unfold leaves
  rw [hr, leavesTo, if_pos h, List.append_assoc]
  constructor
  · rw [List.length_append, List.length_append]
    simp
    omega
  · rw [List.getD_eq_getElem?_getD, List.getElem?_append_right (Nat.le_refl _), Nat.sub_self]
    rfl

theorem May.kid {ns : List Nd} (h : May ns) {i j : Nat} (hj : j ∈ kids ns i) : i < j ∧ j < ns.length ∧ (nd ns j).par = i := by
  have := (mem_kidsTo ns i ns.length j).1 hj
  have hp := h.par j this.1 this.2.1
  exact ⟨by omega, this.2.1, this.2.2⟩
theorem May.leaf_iff {ns : List Nd} (h : May ns) {i : Nat} (hi : i < ns.length) : isLeaf (nd ns i).kind = true ↔ kids ns i = [] := by
  refine ⟨h.leaf i hi, fun e => ?_⟩
  unfold isLeaf
  rw [decide_eq_true_eq]
  constructor
  · intro c
    have := h.list i hi c
    rw [e] at this
    cases this
  · intro c
    have := h.struct i hi c
    rw [e] at this
    cases this
/-- A type that may be has a leaf: its last node. -/
theorem May.some_leaf {ns : List Nd} (h : May ns) : 1 ≤ (leaves ns).length := by
  have h1 := h.one
  have hk : kids ns ((ns.length - 1 : Nat) : Int) = [] := by
    rw [List.eq_nil_iff_forall_not_mem]
    intro j hj
    have := h.kid hj
    omega
  have := leaf_at ns (ns.length - 1) (by omega) ((h.leaf_iff (by omega)).2 hk)
  omega
theorem May.rep_up {ns : List Nd} (h : May ns) {i : Nat} (h1 : 1 ≤ i) (hi : i < ns.length) : rep ns i = rep1 (nd ns i) + rep ns (nd ns i).par.toNat := by
  have hp := h.par i h1 hi
  unfold rep
  rw [row_eq, repF, if_neg (by omega), tab_at _ _ _ (by omega)]
theorem May.dfn_up {ns : List Nd} (h : May ns) {i : Nat} (h1 : 1 ≤ i) (hi : i < ns.length) : dfn ns i = def1 (nd ns i) + dfn ns (nd ns i).par.toNat := by
  have hp := h.par i h1 hi
  unfold dfn
  rw [row_eq, defF, if_neg (by omega), tab_at _ _ _ (by omega)]
theorem rep_first (ns : List Nd) : rep ns 0 = rep1 (nd ns 0) := by
  unfold rep
  rw [row_eq, repF, if_pos rfl, Nat.add_zero]
theorem dfn_first (ns : List Nd) : dfn ns 0 = def1 (nd ns 0) := by
  unfold dfn
  rw [row_eq, defF, if_pos rfl, Nat.add_zero]
theorem May.depth_up {ns : List Nd} (h : May ns) {i : Nat} (h1 : 1 ≤ i) (hi : i < ns.length) : depth ns i = depth ns (nd ns i).par.toNat + 1 := by
  have hp := h.par i h1 hi
  unfold depth
  rw [row_eq, depthF, if_neg (by omega), tab_at _ _ _ (by omega)]
theorem May.depth_le {ns : List Nd} (h : May ns) {i : Nat} (hi : i < ns.length) : depth ns i ≤ 4 := by
  by_cases e : i = 0
  · subst e
    unfold depth
    rw [row_eq, depthF, if_pos rfl]
    omega
  · rw [h.depth_up (by omega) hi]
    have := h.deep i (by omega) hi
    omega
theorem rep1_le (n : Nd) : rep1 n ≤ 1 := by unfold rep1; split <;> omega
theorem def1_le (n : Nd) : def1 n ≤ 2 := by unfold def1; split <;> split <;> omega
theorem May.rep_le {ns : List Nd} (h : May ns) : ∀ i, i < ns.length → rep ns i ≤ i + 1 ∧ dfn ns i ≤ 2 * (i + 1) := by
  intro i
  induction i using Nat.strongRecOn with
  | ind i ih =>
    intro hi
    have r1 := rep1_le (nd ns i)
    have d1 := def1_le (nd ns i)
    by_cases e : i = 0
    · subst e
      rw [rep_first, dfn_first]
      omega
    · have hp := h.par i (by omega) hi
      rw [h.rep_up (by omega) hi, h.dfn_up (by omega) hi]
      have := ih (nd ns i).par.toNat (by omega) (by omega)
      omega
end Go.Proofs.YtejgjipmnmfkcaaGreatDoor.Tree
