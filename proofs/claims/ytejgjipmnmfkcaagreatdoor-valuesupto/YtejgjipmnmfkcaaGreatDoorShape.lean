/-
  A type's nodes as shapes: a row of cells in a block, the rows of kids: what shapeOf makes.
-/
import Derived.Test.YtejgjipmnmfkcaaGreatDoorTree
import Derived.Test.YtejgjipmnmfkcaaGreatDoorOpen
import Derived.Test.YtejgjipmnmfkcaaGreatDoorMem
import Derived.Test.YtejgjipmnmfkcaaGreatDoorUp
import Derived.Test.YtejgjipmnmfkcaaGreatDoorMay
import Derived.Test.YtejgjipmnmfkcaaGreatDoorTk
import Derived.Test.YtejgjipmnmfkcaaGreatDoorBehind
import Derived.Deep.RegionHeld3
import Derived.Deep.AppendLies
import Derived.Laws.OwnMore
namespace Go.Proofs.YtejgjipmnmfkcaaGreatDoor.Val
open Go.ChangeShapes Go.WideShapes Go.ChangeAt Go.RowKit
open Tree

theorem info79 : (Tryz.prog.info? 89).map (fun i => (i.zero, i.size, i.bytes)) = some (some (.agg #[.int .i64 0, .int .i64 0, .bool false, .slice none 0 0]), 4, 48) := by kernel_rfl
theorem info55 : (Tryz.prog.info? 54).map (fun i => (i.zero, i.size, i.bytes)) = some (some (.pointer none), 1, 8) := by kernel_rfl
/-- A block's cells, by their places. -/
structure RowV (w : World) (g L : Nat) (f : Nat → Value) : Prop where
  cell : ∀ i, i < L → w.cell? ⟨g, i, none⟩ = some (f i)
  fz : ∀ i, i < L → w.frozen? ⟨g, i, none⟩ = false
  lt : g < w.heap.size
theorem RowV.set {w : World} {g L : Nat} {f : Nat → Value} (h : RowV w g L f) (j : Nat) (hj : j < L) (v : Value) : RowV (w.setCell ⟨g, j, none⟩ v) g L (fun i => if i = j then v else f i) := by
  refine ⟨fun i hi => ?_, fun i hi => ?_, by simp [World.setCell]; exact h.lt⟩
  · by_cases e : i = j
    · subst e
      rw [if_pos rfl]
      exact World.cell?_setCell_same _ _ _ (h.cell i hi)
    · rw [if_neg e]
      rw [World.cell?_setCell_other _ _ _ _ (fun c => e (by injection c with _ c _; exact c.symm))]
      exact h.cell i hi
  · rw [World.frozen?_setCell]
    exact h.fz i hi
theorem RowV.of_block {w w' : World} {g L : Nat} {f : Nat → Value} (h : RowV w g L f) (hb : w'.heap[g]? = w.heap[g]?) : RowV w' g L f := by
  refine ⟨fun i hi => (World.cell?_of_block (w := w) (a := ⟨g, i, none⟩) hb).trans (h.cell i hi), fun i hi => (World.frozen?_of_block (w := w) (a := ⟨g, i, none⟩) hb).trans (h.fz i hi), ?_⟩
  have h0 := h.lt
  by_cases c : g < w'.heap.size
  · exact c
  · rw [Array.getElem?_eq_none (by omega), Array.getElem?_eq_getElem h0] at hb
    cases hb
theorem RowV.as {w : World} {g L : Nat} {f f' : Nat → Value} (h : RowV w g L f) (e : ∀ i, i < L → f i = f' i) : RowV w g L f' := ⟨fun i hi => by rw [← e i hi]; exact h.cell i hi, h.fz, h.lt⟩
/-- What a shape's cells hold: so many nodes are laid, these are the lists of kids. -/
def shC (ns : List Nd) (m : Nat) (vs : Nat → Value) (o : Nat) : Value :=
  if o % 4 = 3 then vs (o / 4) else if o / 4 < m then (if o % 4 = 0 then .int .i64 (nd ns (o / 4)).kind else if o % 4 = 1 then .int .i64 (nd ns (o / 4)).par else .bool (nd ns (o / 4)).null) else if o % 4 = 2 then .bool false else .int .i64 0
def ptrs (g : Nat) (l : List Nat) : List Value := l.map fun k => .pointer (some ⟨g, k * 4, none⟩)
theorem ptrs_snoc (g : Nat) (l : List Nat) (k : Nat) : ptrs g (l ++ [k]) = ptrs g l ++ [.pointer (some ⟨g, k * 4, none⟩)] := by simp [ptrs]
structure ShInv (w : World) (g : Nat) (ns : List Nd) (m i : Nat) (vs : Nat → Value) : Prop where
  row : RowV w g (ns.length * 4) (shC ns m vs)
  own : ∀ j, j < ns.length → w.ownsRow (g + 1) 54 1 (vs j) (kidsTo ns j i).length (ptrs g (kidsTo ns j i))
  apart : ∀ j k, j < ns.length → k < ns.length → j ≠ k → ∀ x, (vs j).ownBlock = some x → (vs k).ownBlock ≠ some x
theorem shC_kids (ns : List Nd) (m : Nat) (vs : Nat → Value) (j : Nat) : shC ns m vs (j * 4 + 3) = vs j := by
  unfold shC
  rw [if_pos (by omega), show (j * 4 + 3) / 4 = j from by omega]
theorem shC_kind (ns : List Nd) (m : Nat) (vs : Nat → Value) (j : Nat) (h : j < m) : shC ns m vs (j * 4) = .int .i64 (nd ns j).kind := by
  unfold shC
  rw [if_neg (by omega), show j * 4 / 4 = j from by omega, if_pos h, if_pos (by omega)]
theorem shC_null (ns : List Nd) (m : Nat) (vs : Nat → Value) (j : Nat) (h : j < m) : shC ns m vs (j * 4 + 2) = .bool (nd ns j).null := by
  unfold shC
  rw [if_neg (by omega), show (j * 4 + 2) / 4 = j from by omega, if_pos h, if_neg (by omega), if_neg (by omega)]
/-- A node is laid. -/
theorem ShInv.node {w : World} {g : Nat} {ns : List Nd} {m i : Nat} {vs : Nat → Value} (h : ShInv w g ns m i vs) (hm : m < ns.length) :
    ∃ w1, ((w.setCell ⟨g, m * 4, none⟩ (.int .i64 (nd ns m).kind)).setCell ⟨g, m * 4 + 1, none⟩ (.int .i64 (nd ns m).par)).setCell ⟨g, m * 4 + 2, none⟩ (.bool (nd ns m).null) = w1 ∧ ShInv w1 g ns (m + 1) i vs ∧ Mv g w w1 := by
  have hv : Mv g w (((w.setCell ⟨g, m * 4, none⟩ (.int .i64 (nd ns m).kind)).setCell ⟨g, m * 4 + 1, none⟩ (.int .i64 (nd ns m).par)).setCell ⟨g, m * 4 + 2, none⟩ (.bool (nd ns m).null)) :=
    ((Mv.set g w _ _).trans (Mv.set g _ _ _)).trans (Mv.set g _ _ _)
  refine ⟨_, rfl, ⟨?_, fun j hj => ?_, h.apart⟩, hv⟩
  · refine (((h.row.set (m * 4) (by omega) _).set (m * 4 + 1) (by omega) _).set (m * 4 + 2) (by omega) _).as fun o ho => ?_
    by_cases e2 : o = m * 4 + 2
    · rw [if_pos e2, e2, shC_null _ _ _ _ (Nat.lt_succ_self _)]
    · rw [if_neg e2]
      by_cases e1 : o = m * 4 + 1
      · rw [if_pos e1, e1]
        unfold shC
        rw [if_neg (by omega), show (m * 4 + 1) / 4 = m from by omega, if_pos (by omega), if_neg (by omega), if_pos (by omega)]
      · rw [if_neg e1]
        by_cases e0 : o = m * 4
        · rw [if_pos e0, e0, shC_kind _ _ _ _ (Nat.lt_succ_self _)]
        · rw [if_neg e0]
          unfold shC
          by_cases c3 : o % 4 = 3
          · rw [if_pos c3, if_pos c3]
          · rw [if_neg c3, if_neg c3]
            by_cases c : o / 4 < m
            · have c' : o / 4 < m + 1 := by omega
              rw [if_pos c, if_pos c']
            · have c' : ¬ o / 4 < m + 1 := by omega
              rw [if_neg c, if_neg c']
  · have := h.own j hj
    have hlt := this.lt
    refine ⟨this.1, ?_⟩
    rcases this.2 with c | ⟨g', cap, cur, h0, h1, h2, h3⟩
    · exact .inl c
    · rw [h0] at hlt
      exact .inr ⟨g', cap, cur, h0, h1, (hv.block g' (hlt g' rfl).2 (by omega)).trans h2, h3⟩
/-- What is told of a row while another block is written. -/
theorem own_block {w w' : World} {B n : Nat} {e : TypeId} {k : Nat} {v : Value} {xs : List Value} (h : w.ownsRow B e k v n xs) (hb : ∀ x, v.ownBlock = some x → w'.heap[x]? = w.heap[x]?) : w'.ownsRow B e k v n xs := by
  refine ⟨h.1, ?_⟩
  rcases h.2 with c | ⟨g', cap, cur, h0, h1, h2, h3⟩
  · exact .inl c
  · exact .inr ⟨g', cap, cur, h0, h1, (hb g' (by rw [h0]; rfl)).trans h2, h3⟩
theorem ShInv.later {w w' : World} {g : Nat} {ns : List Nd} {m i : Nat} {vs : Nat → Value} (h : ShInv w g ns m i vs) (hb : Below w.heap.size w w') : ShInv w' g ns m i vs :=
  ⟨h.row.of_block (hb.block g h.row.lt), fun j hj => own_block (h.own j hj) (fun x hx => hb.block x ((h.own j hj).lt x hx).2), h.apart⟩
/-- A kid is laid to its parent's. -/
theorem ShInv.kid {w w4 : World} {g : Nat} {ns : List Nd} {m i p : Nat} {vs : Nat → Value} {g' cap : Nat} (h : ShInv w g ns m i vs) (hp : p < ns.length) (hi1 : 1 ≤ i) (hpar : (nd ns i).par = (p : Int))
    (hown : w4.ownsRow (g + 1) 54 1 (.slice (some ⟨g', 0, none⟩) ((kidsTo ns p i).length + 1) cap) ((kidsTo ns p i).length + 1) (ptrs g (kidsTo ns p i) ++ [.pointer (some ⟨g, i * 4, none⟩)]))
    (hgrow : w.grownBy w4 (vs p).ownBlock) (hg' : (vs p).ownBlock = some g' ∨ w.heap.size ≤ g') :
    ShInv (w4.setCell ⟨g, p * 4 + 3, none⟩ (.slice (some ⟨g', 0, none⟩) ((kidsTo ns p i).length + 1) cap)) g ns m (i + 1) (fun j => if j = p then .slice (some ⟨g', 0, none⟩) ((kidsTo ns p i).length + 1) cap else vs j) := by
  have hrow : RowV w4 g (ns.length * 4) (shC ns m vs) := h.row.of_block (hgrow.block g h.row.lt (fun e => by
    have := ((h.own p hp).lt g e.symm).1
    omega))
  have hk : ∀ j : Nat, kidsTo ns j (i + 1) = if j = p then kidsTo ns p i ++ [i] else kidsTo ns j i := by
    intro j
    rw [kidsTo]
    by_cases e : j = p
    · rw [if_pos e, if_pos ⟨hi1, by rw [hpar, e]⟩, e]
    · rw [if_neg e, if_neg (fun c => e (by have := c.2; rw [hpar] at this; omega))]
  refine ⟨?_, fun j hj => ?_, ?_⟩
  · refine (hrow.set (p * 4 + 3) (by omega) _).as fun o ho => ?_
    by_cases e : o = p * 4 + 3
    · rw [if_pos e, e, shC_kids, if_pos rfl]
    · rw [if_neg e]
      unfold shC
      by_cases c3 : o % 4 = 3
      · have c4 : ¬ o / 4 = p := by omega
        rw [if_pos c3, if_pos c3]
        show vs (o / 4) = if o / 4 = p then _ else vs (o / 4)
        rw [if_neg c4]
      · rw [if_neg c3, if_neg c3]
  · show World.ownsRow _ _ _ _ (if j = p then Value.slice (some ⟨g', 0, none⟩) ((kidsTo ns p i).length + 1) cap else vs j) _ _
    rw [hk j]
    by_cases e : j = p
    · rw [if_pos e, if_pos e, ptrs_snoc, List.length_append, List.length_singleton]
      exact ownsRow_setCell_below hown (Nat.lt_succ_self _) _
    · rw [if_neg e, if_neg e]
      refine ownsRow_setCell_below ?_ (Nat.lt_succ_self _) _
      refine own_block (h.own j hj) fun x hx => hgrow.block x ((h.own j hj).lt x hx).2 (fun c => h.apart j p hj hp e x hx c.symm)
  · intro j k hj hk' hjk x hx hy
    replace hx : (if j = p then Value.slice (some ⟨g', 0, none⟩) ((kidsTo ns p i).length + 1) cap else vs j).ownBlock = some x := hx
    replace hy : (if k = p then Value.slice (some ⟨g', 0, none⟩) ((kidsTo ns p i).length + 1) cap else vs k).ownBlock = some x := hy
    have key : ∀ j, j < ns.length → j ≠ p → ∀ x, (vs j).ownBlock = some x → x ≠ g' := by
      intro a ha hap y hya e
      rw [e] at hya
      rcases hg' with c | c
      · exact h.apart a p ha hp hap g' hya c
      · have := ((h.own a ha).lt g' hya).2
        omega
    by_cases e1 : j = p
    · rw [if_pos e1] at hx
      have hx' : x = g' := by injection hx with hx; exact hx.symm
      have e2 : k ≠ p := fun c => hjk (e1.trans c.symm)
      rw [if_neg e2] at hy
      exact key k hk' e2 x hy hx'
    · rw [if_neg e1] at hx
      by_cases e2 : k = p
      · rw [if_pos e2] at hy
        have hx' : x = g' := by injection hy with hy; exact hy.symm
        exact key j hj e1 x hx hx'
      · rw [if_neg e2] at hy
        exact h.apart j k hj hk' hjk x hx hy
theorem made_at (n o : Nat) (h : o < n * 4) : (madeCells (Value.cells (.agg #[.int .i64 0, .int .i64 0, .bool false, .slice none 0 0])) (n * 4))[o]? = some (shC [] 0 (fun _ => .slice none 0 0) o) := by
  have hc : Value.cells (.agg #[.int .i64 0, .int .i64 0, .bool false, .slice none 0 0]) = #[.int .i64 0, .int .i64 0, .bool false, .slice none 0 0] := rfl
  rw [hc]
  unfold madeCells
  rw [Array.getElem?_map, Array.getElem?_range]
  have h4 : o % 4 = 0 ∨ o % 4 = 1 ∨ o % 4 = 2 ∨ o % 4 = 3 := by omega
  unfold shC
  rw [if_pos h, Option.map_some]
  show some (#[Value.int .i64 0, .int .i64 0, .bool false, .slice none 0 0][o % 4]!) = _
  rcases h4 with e | e | e | e <;> rw [e] <;> rfl
/-- The shapes, all zeros. -/
theorem make_shapes (n : Nat) (hn : n ≤ 8) (w : World) :
    ∃ w1, (Instr.makeSlice 86 (.int .i64 (n : Int)) (.int .i64 (n : Int))).run Tryz.prog w = .ok (.slice (some ⟨w.heap.size, 0, none⟩) n n) w1 ∧ RowV w1 w.heap.size (n * 4) (shC [] 0 (fun _ => .slice none 0 0)) ∧ Below w.heap.size w w1 := by
  obtain ⟨i, hi, hz0, hz1, hz2⟩ := info_parts info79
  have := run_make (P := Tryz.prog) w 86 89 i (.agg #[.int .i64 0, .int .i64 0, .bool false, .slice none 0 0]) Tryz.underlying86 hi hz0 .i64 .i64 n n (by omega) (Int.le_refl _) (by rw [hz2]; omega) (by omega)
  rw [hz1, Int.toNat_natCast] at this
  refine ⟨_, this, ⟨fun o ho => ?_, fun o ho => ?_, by simp⟩, (Below.refl _ _).alloc (Nat.le_refl _) _⟩
  · have hb := heap_alloc_new w (.cells (madeCells (Value.cells (.agg #[.int .i64 0, .int .i64 0, .bool false, .slice none 0 0])) (n * 4)) 89)
    rw [cell_of_row _ _ _ _ _ _ hb]
    exact made_at n o ho
  · simp
theorem shInv_zero {w : World} {g : Nat} (ns : List Nd) (h : RowV w g (ns.length * 4) (shC [] 0 (fun _ => .slice none 0 0))) : ShInv w g ns 0 0 (fun _ => .slice none 0 0) := by
  refine ⟨h.as fun o ho => ?_, fun j hj => World.ownsRow_nil _ _ _ _, fun j k _ _ _ x hx => by cases hx⟩
  unfold shC
  by_cases c3 : o % 4 = 3
  · rw [if_pos c3, if_pos c3]
  · rw [if_neg c3, if_neg c3, if_neg (Nat.not_lt_zero _), if_neg (Nat.not_lt_zero _)]
end Go.Proofs.YtejgjipmnmfkcaaGreatDoor.Val
