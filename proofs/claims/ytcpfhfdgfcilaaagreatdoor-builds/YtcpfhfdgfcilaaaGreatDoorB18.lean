/-
  Several texts in one: A type's nodes as shapes: a row of cells in a block, the rows of kids: what shapeOf makes. · What shapeOf makes: contract. · Whether a value fits a shape: every.One, every.Pair, their closures, fits: contracts. · Whether a value fits a shape; whether it may be of a node: fits, Fits: contracts. · Whether a value may be of a node of a type: Fits: contract.
-/
import Derived.Test.YtcpfhfdgfcilaaaGreatDoorB01
import Derived.Test.YtcpfhfdgfcilaaaGreatDoorB12
import Derived.Test.YtcpfhfdgfcilaaaGreatDoorB16
import Derived.Deep.RegionHeld3
import Derived.Deep.AppendLies
import Derived.Laws.OwnMore
import Derived.Deep.RegionWith
namespace Go.Proofs.YtcpfhfdgfcilaaaGreatDoor.Val
open Go.ChangeShapes Go.WideShapes Go.ChangeAt Go.RowKit
open Tree

theorem info79 : (Tryz.prog.info? 192).map (fun i => (i.zero, i.size, i.bytes)) = some (some (.agg #[.int .i64 0, .int .i64 0, .bool false, .slice none 0 0]), 4, 48) := by kernel_rfl
theorem info55 : (Tryz.prog.info? 157).map (fun i => (i.zero, i.size, i.bytes)) = some (some (.pointer none), 1, 8) := by kernel_rfl
/-- A block's cells, by their places. -/
structure RowV (w : World) (g L : Nat) (f : Nat → Value) : Prop where
  cell : ∀ i, i < L → w.cell? ⟨g, i, none⟩ = some (f i)
  fz : ∀ i, i < L → w.frozen? ⟨g, i, none⟩ = false
  lt : g < w.heap.size
theorem RowV.set {w : World} {g L : Nat} {f : Nat → Value} (h : RowV w g L f) (j : Nat) (hj : j < L) (v : Value) : RowV (w.setCell ⟨g, j, none⟩ v) g L (fun i => if i = j then v else f i) := by
  refine ⟨fun i hi => ?_, fun i hi => ?_, by simp [World.setCell]; exact h.lt⟩
  · by_cases e : i = j
    · subst e
      rw [if_pos rfl]
      exact World.cell?_setCell_same _ _ _ (h.cell i hi)
    · rw [if_neg e]
      rw [World.cell?_setCell_other _ _ _ _ (fun c => e (by injection c with _ c _; exact c.symm))]
      exact h.cell i hi
  · rw [World.frozen?_setCell]
    exact h.fz i hi
theorem RowV.of_block {w w' : World} {g L : Nat} {f : Nat → Value} (h : RowV w g L f) (hb : w'.heap[g]? = w.heap[g]?) : RowV w' g L f := by
  refine ⟨fun i hi => (World.cell?_of_block (w := w) (a := ⟨g, i, none⟩) hb).trans (h.cell i hi), fun i hi => (World.frozen?_of_block (w := w) (a := ⟨g, i, none⟩) hb).trans (h.fz i hi), ?_⟩
  have h0 := h.lt
  by_cases c : g < w'.heap.size
  · exact c
  · rw [Array.getElem?_eq_none (by omega), Array.getElem?_eq_getElem h0] at hb
    cases hb
theorem RowV.as {w : World} {g L : Nat} {f f' : Nat → Value} (h : RowV w g L f) (e : ∀ i, i < L → f i = f' i) : RowV w g L f' := ⟨fun i hi => by rw [← e i hi]; exact h.cell i hi, h.fz, h.lt⟩
/-- What a shape's cells hold: so many nodes are laid, these are the lists of kids. -/
def shC (ns : List Nd) (m : Nat) (vs : Nat → Value) (o : Nat) : Value :=
  if o % 4 = 3 then vs (o / 4) else if o / 4 < m then (if o % 4 = 0 then .int .i64 (nd ns (o / 4)).kind else if o % 4 = 1 then .int .i64 (nd ns (o / 4)).par else .bool (nd ns (o / 4)).null) else if o % 4 = 2 then .bool false else .int .i64 0
def ptrs (g : Nat) (l : List Nat) : List Value := l.map fun k => .pointer (some ⟨g, k * 4, none⟩)
theorem ptrs_snoc (g : Nat) (l : List Nat) (k : Nat) : ptrs g (l ++ [k]) = ptrs g l ++ [.pointer (some ⟨g, k * 4, none⟩)] := by simp [ptrs]
structure ShInv (w : World) (g : Nat) (ns : List Nd) (m i : Nat) (vs : Nat → Value) : Prop where
  row : RowV w g (ns.length * 4) (shC ns m vs)
  own : ∀ j, j < ns.length → w.ownsRow (g + 1) 157 1 (vs j) (kidsTo ns j i).length (ptrs g (kidsTo ns j i))
  apart : ∀ j k, j < ns.length → k < ns.length → j ≠ k → ∀ x, (vs j).ownBlock = some x → (vs k).ownBlock ≠ some x
theorem shC_kids (ns : List Nd) (m : Nat) (vs : Nat → Value) (j : Nat) : shC ns m vs (j * 4 + 3) = vs j := by
  unfold shC
  rw [if_pos (by omega), show (j * 4 + 3) / 4 = j from by omega]
theorem shC_kind (ns : List Nd) (m : Nat) (vs : Nat → Value) (j : Nat) (h : j < m) : shC ns m vs (j * 4) = .int .i64 (nd ns j).kind := by
  unfold shC
  rw [if_neg (by omega), show j * 4 / 4 = j from by omega, if_pos h, if_pos (by omega)]
theorem shC_null (ns : List Nd) (m : Nat) (vs : Nat → Value) (j : Nat) (h : j < m) : shC ns m vs (j * 4 + 2) = .bool (nd ns j).null := by
  unfold shC
  rw [if_neg (by omega), show (j * 4 + 2) / 4 = j from by omega, if_pos h, if_neg (by omega), if_neg (by omega)]
/-- A node is laid. -/
theorem ShInv.node {w : World} {g : Nat} {ns : List Nd} {m i : Nat} {vs : Nat → Value} (h : ShInv w g ns m i vs) (hm : m < ns.length) :
    ∃ w1, ((w.setCell ⟨g, m * 4, none⟩ (.int .i64 (nd ns m).kind)).setCell ⟨g, m * 4 + 1, none⟩ (.int .i64 (nd ns m).par)).setCell ⟨g, m * 4 + 2, none⟩ (.bool (nd ns m).null) = w1 ∧ ShInv w1 g ns (m + 1) i vs ∧ Mv g w w1 := by
  have hv : Mv g w (((w.setCell ⟨g, m * 4, none⟩ (.int .i64 (nd ns m).kind)).setCell ⟨g, m * 4 + 1, none⟩ (.int .i64 (nd ns m).par)).setCell ⟨g, m * 4 + 2, none⟩ (.bool (nd ns m).null)) :=
    ((Mv.set g w _ _).trans (Mv.set g _ _ _)).trans (Mv.set g _ _ _)
  refine ⟨_, rfl, ⟨?_, fun j hj => ?_, h.apart⟩, hv⟩
  · refine (((h.row.set (m * 4) (by omega) _).set (m * 4 + 1) (by omega) _).set (m * 4 + 2) (by omega) _).as fun o ho => ?_
    by_cases e2 : o = m * 4 + 2
    · rw [if_pos e2, e2, shC_null _ _ _ _ (Nat.lt_succ_self _)]
    · rw [if_neg e2]
      by_cases e1 : o = m * 4 + 1
      · rw [if_pos e1, e1]
        unfold shC
        rw [if_neg (by omega), show (m * 4 + 1) / 4 = m from by omega, if_pos (by omega), if_neg (by omega), if_pos (by omega)]
      · rw [if_neg e1]
        by_cases e0 : o = m * 4
        · rw [if_pos e0, e0, shC_kind _ _ _ _ (Nat.lt_succ_self _)]
        · rw [if_neg e0]
          unfold shC
          by_cases c3 : o % 4 = 3
          · rw [if_pos c3, if_pos c3]
          · rw [if_neg c3, if_neg c3]
            by_cases c : o / 4 < m
            · have c' : o / 4 < m + 1 := by omega
              rw [if_pos c, if_pos c']
            · have c' : ¬ o / 4 < m + 1 := by omega
              rw [if_neg c, if_neg c']
  · have := h.own j hj
    have hlt := this.lt
    refine ⟨this.1, ?_⟩
    rcases this.2 with c | ⟨g', cap, cur, h0, h1, h2, h3⟩
    · exact .inl c
    · rw [h0] at hlt
      exact .inr ⟨g', cap, cur, h0, h1, (hv.block g' (hlt g' rfl).2 (by omega)).trans h2, h3⟩
/-- What is told of a row while another block is written. -/
theorem own_block {w w' : World} {B n : Nat} {e : TypeId} {k : Nat} {v : Value} {xs : List Value} (h : w.ownsRow B e k v n xs) (hb : ∀ x, v.ownBlock = some x → w'.heap[x]? = w.heap[x]?) : w'.ownsRow B e k v n xs := by
  refine ⟨h.1, ?_⟩
  rcases h.2 with c | ⟨g', cap, cur, h0, h1, h2, h3⟩
  · exact .inl c
  · exact .inr ⟨g', cap, cur, h0, h1, (hb g' (by rw [h0]; rfl)).trans h2, h3⟩
theorem ShInv.later {w w' : World} {g : Nat} {ns : List Nd} {m i : Nat} {vs : Nat → Value} (h : ShInv w g ns m i vs) (hb : Below w.heap.size w w') : ShInv w' g ns m i vs :=
  ⟨h.row.of_block (hb.block g h.row.lt), fun j hj => own_block (h.own j hj) (fun x hx => hb.block x ((h.own j hj).lt x hx).2), h.apart⟩
/-- A kid is laid to its parent's. -/
theorem ShInv.kid {w w4 : World} {g : Nat} {ns : List Nd} {m i p : Nat} {vs : Nat → Value} {g' cap : Nat} (h : ShInv w g ns m i vs) (hp : p < ns.length) (hi1 : 1 ≤ i) (hpar : (nd ns i).par = (p : Int))
    (hown : w4.ownsRow (g + 1) 157 1 (.slice (some ⟨g', 0, none⟩) ((kidsTo ns p i).length + 1) cap) ((kidsTo ns p i).length + 1) (ptrs g (kidsTo ns p i) ++ [.pointer (some ⟨g, i * 4, none⟩)]))
    (hgrow : w.grownBy w4 (vs p).ownBlock) (hg' : (vs p).ownBlock = some g' ∨ w.heap.size ≤ g') :
    ShInv (w4.setCell ⟨g, p * 4 + 3, none⟩ (.slice (some ⟨g', 0, none⟩) ((kidsTo ns p i).length + 1) cap)) g ns m (i + 1) (fun j => if j = p then .slice (some ⟨g', 0, none⟩) ((kidsTo ns p i).length + 1) cap else vs j) := by
  have hrow : RowV w4 g (ns.length * 4) (shC ns m vs) := h.row.of_block (hgrow.block g h.row.lt (fun e => by
    have := ((h.own p hp).lt g e.symm).1
    omega))
  have hk : ∀ j : Nat, kidsTo ns j (i + 1) = if j = p then kidsTo ns p i ++ [i] else kidsTo ns j i := by
    intro j
    rw [kidsTo]
    by_cases e : j = p
    · rw [if_pos e, if_pos ⟨hi1, by rw [hpar, e]⟩, e]
    · rw [if_neg e, if_neg (fun c => e (by have := c.2; rw [hpar] at this; omega))]
  refine ⟨?_, fun j hj => ?_, ?_⟩
  · refine (hrow.set (p * 4 + 3) (by omega) _).as fun o ho => ?_
    by_cases e : o = p * 4 + 3
    · rw [if_pos e, e, shC_kids, if_pos rfl]
    · rw [if_neg e]
      unfold shC
      by_cases c3 : o % 4 = 3
      · have c4 : ¬ o / 4 = p := by omega
        rw [if_pos c3, if_pos c3]
        show vs (o / 4) = if o / 4 = p then _ else vs (o / 4)
        rw [if_neg c4]
      · rw [if_neg c3, if_neg c3]
  · show World.ownsRow _ _ _ _ (if j = p then Value.slice (some ⟨g', 0, none⟩) ((kidsTo ns p i).length + 1) cap else vs j) _ _
    rw [hk j]
    by_cases e : j = p
    · rw [if_pos e, if_pos e, ptrs_snoc, List.length_append, List.length_singleton]
      exact ownsRow_setCell_below hown (Nat.lt_succ_self _) _
    · rw [if_neg e, if_neg e]
      refine ownsRow_setCell_below ?_ (Nat.lt_succ_self _) _
      refine own_block (h.own j hj) fun x hx => hgrow.block x ((h.own j hj).lt x hx).2 (fun c => h.apart j p hj hp e x hx c.symm)
  · intro j k hj hk' hjk x hx hy
    replace hx : (if j = p then Value.slice (some ⟨g', 0, none⟩) ((kidsTo ns p i).length + 1) cap else vs j).ownBlock = some x := hx
    replace hy : (if k = p then Value.slice (some ⟨g', 0, none⟩) ((kidsTo ns p i).length + 1) cap else vs k).ownBlock = some x := hy
    have key : ∀ j, j < ns.length → j ≠ p → ∀ x, (vs j).ownBlock = some x → x ≠ g' := by
      intro a ha hap y hya e
      rw [e] at hya
      rcases hg' with c | c
      · exact h.apart a p ha hp hap g' hya c
      · have := ((h.own a ha).lt g' hya).2
        omega
    by_cases e1 : j = p
    · rw [if_pos e1] at hx
      have hx' : x = g' := by injection hx with hx; exact hx.symm
      have e2 : k ≠ p := fun c => hjk (e1.trans c.symm)
      rw [if_neg e2] at hy
      exact key k hk' e2 x hy hx'
    · rw [if_neg e1] at hx
      by_cases e2 : k = p
      · rw [if_pos e2] at hy
        have hx' : x = g' := by injection hy with hy; exact hy.symm
        exact key j hj e1 x hx hx'
      · rw [if_neg e2] at hy
        exact h.apart j k hj hk' hjk x hx hy
theorem made_at (n o : Nat) (h : o < n * 4) : (madeCells (Value.cells (.agg #[.int .i64 0, .int .i64 0, .bool false, .slice none 0 0])) (n * 4))[o]? = some (shC [] 0 (fun _ => .slice none 0 0) o) := by
  have hc : Value.cells (.agg #[.int .i64 0, .int .i64 0, .bool false, .slice none 0 0]) = #[.int .i64 0, .int .i64 0, .bool false, .slice none 0 0] := rfl
  rw [hc]
  unfold madeCells
  rw [Array.getElem?_map, Array.getElem?_range]
  have h4 : o % 4 = 0 ∨ o % 4 = 1 ∨ o % 4 = 2 ∨ o % 4 = 3 := by omega
  unfold shC
  rw [if_pos h, Option.map_some]
  show some (#[Value.int .i64 0, .int .i64 0, .bool false, .slice none 0 0][o % 4]!) = _
  rcases h4 with e | e | e | e <;> rw [e] <;> rfl
/-- The shapes, all zeros. -/
theorem make_shapes (n : Nat) (hn : n ≤ 8) (w : World) :
    ∃ w1, (Instr.makeSlice 189 (.int .i64 (n : Int)) (.int .i64 (n : Int))).run Tryz.prog w = .ok (.slice (some ⟨w.heap.size, 0, none⟩) n n) w1 ∧ RowV w1 w.heap.size (n * 4) (shC [] 0 (fun _ => .slice none 0 0)) ∧ Below w.heap.size w w1 := by
  obtain ⟨i, hi, hz0, hz1, hz2⟩ := info_parts info79
  have := run_make (P := Tryz.prog) w 189 192 i (.agg #[.int .i64 0, .int .i64 0, .bool false, .slice none 0 0]) Tryz.underlying189 hi hz0 .i64 .i64 n n (by omega) (Int.le_refl _) (by rw [hz2]; omega) (by omega)
  rw [hz1, Int.toNat_natCast] at this
  refine ⟨_, this, ⟨fun o ho => ?_, fun o ho => ?_, by simp⟩, (Below.refl _ _).alloc (Nat.le_refl _) _⟩
  · have hb := heap_alloc_new w (.cells (madeCells (Value.cells (.agg #[.int .i64 0, .int .i64 0, .bool false, .slice none 0 0])) (n * 4)) 192)
    rw [cell_of_row _ _ _ _ _ _ hb]
    exact made_at n o ho
  · simp
theorem shInv_zero {w : World} {g : Nat} (ns : List Nd) (h : RowV w g (ns.length * 4) (shC [] 0 (fun _ => .slice none 0 0))) : ShInv w g ns 0 0 (fun _ => .slice none 0 0) := by
  refine ⟨h.as fun o ho => ?_, fun j hj => World.ownsRow_nil _ _ _ _, fun j k _ _ _ x hx => by cases hx⟩
  unfold shC
  by_cases c3 : o % 4 = 3
  · rw [if_pos c3, if_pos c3]
  · rw [if_neg c3, if_neg c3, if_neg (Nat.not_lt_zero _), if_neg (Nat.not_lt_zero _)]
end Go.Proofs.YtcpfhfdgfcilaaaGreatDoor.Val
namespace Go.Proofs.YtcpfhfdgfcilaaaGreatDoor.Val
open Go.ChangeShapes Go.WideShapes Go.ChangeAt Go.RowKit
open Tree

theorem ShInv.first {w : World} {g : Nat} {ns : List Nd} {m : Nat} {vs : Nat → Value} (h : ShInv w g ns m 0 vs) : ShInv w g ns m 1 vs :=
  ⟨h.row, fun j hj => by rw [kidsTo_one]; exact h.own j hj, h.apart⟩
theorem grow_first {w v u : World} {row : Option Nat} (h : Below w.heap.size w v) (k : v.grownBy u row) : w.grownBy u row :=
  ⟨k.os.trans h.os, k.tape.trans h.tape, k.output.trans h.output, Nat.le_trans h.size k.size, fun i hi hr => (k.block i (Nat.lt_of_lt_of_le hi h.size) hr).trans (h.block i hi)⟩
theorem box_node (w : World) (n : Nd) : ∃ w1, w.alloc (.cells #[.int .i64 n.kind, .int .i64 n.par, .bool n.null] 40) = w1 ∧ Below w.heap.size w w1 ∧ w1.cell? ⟨w.heap.size, 0, none⟩ = some (.int .i64 n.kind) ∧ w1.cell? ⟨w.heap.size, 1, none⟩ = some (.int .i64 n.par) ∧ w1.cell? ⟨w.heap.size, 2, none⟩ = some (.bool n.null) :=
  ⟨_, rfl, (Below.refl _ _).alloc (Nat.le_refl _) _, by simp, by simp, by simp⟩
set_option maxRecDepth 20000 in
set_option maxHeartbeats 3200000 in
theorem shapeOfC (x : Addr) (cap : Nat) (ns : List Nd) (a : Nat) (ha : a < ns.length) (hm : Hid (May ns)) (w : World) (hl : Hid (Lies w x ns)) :
    Calls Tryz.prog 154 #[.agg #[.slice (some x) ns.length cap], .int .i64 (a : Int)] w fun r w' => ∃ g vs, r = .returned (.pointer (some ⟨g, a * 4, none⟩)) ∧ ShInv w' g ns ns.length ns.length vs ∧ w.heap.size ≤ g ∧ Below w.heap.size w w' := by
  have h8 : ns.length ≤ 8 := hm.out.most
  obtain ⟨w1, e1, hs1, hc1, hb1⟩ := boxed w (.slice (some x) ns.length cap) 24
  obtain ⟨w2, e2, hr2, hb2⟩ := make_shapes ns.length h8 w1
  have hc2 := cell_later hb2 hc1
  have HI2 : Hid (ShInv w2 w1.heap.size ns 0 0 (fun _ => .slice none 0 0)) := shInv_zero ns hr2
  have HB2 : Hid (Below w.heap.size w w2) := bel hb1 hb2
  have HG : Hid (w.heap.size ≤ w1.heap.size) := hb1.size
  clear hr2 hb2 hb1 hs1
  obtain ⟨i55, hi, hz0, hz1, hz2⟩ := info_parts info55
  go_enter Tryz.func154, Tryz.ntmps154
  go_wp2_with fail
  clear e1 e2 hc1 hc2
  generalize w1.heap.size = g at *
  go_loopw [16] (fun t wr => ∃ (i : Nat) (vs : Nat → Value), i ≤ ns.length ∧ t = .int .i64 (i : Int) ∧ ShInv wr g ns i i vs ∧ Below w.heap.size w wr) (fun t _ => ns.length - (intOf t).toNat)
  case atStart => exact ⟨0, _, Nat.zero_le _, rfl, HI2.out, HB2.out⟩
  case round =>
    obtain ⟨i, vs, hil, rfl, hinv, hbl⟩ := hrel
    by_cases hlt : i < ns.length
    · have hl2 := hl.out.later hbl
      have p0 := hl2.kind' i hlt
      have p1 := hl2.par' i hlt
      have p2 := hl2.null' i hlt
      obtain ⟨w3, e3, b3, d0, d1, d2⟩ := box_node wr (nd ns i)
      have hinv3 := hinv.later b3
      have f0 := hinv3.row.fz (i * 4) (by omega)
      have f1 := hinv3.row.fz (i * 4 + 1) (by omega)
      have f2 := hinv3.row.fz (i * 4 + 2) (by omega)
      have g0 := hinv3.row.cell (i * 4) (by omega)
      have g1 := hinv3.row.cell (i * 4 + 1) (by omega)
      have g2 := hinv3.row.cell (i * 4 + 2) (by omega)
      obtain ⟨w4, e4, hinv4, m4⟩ := hinv3.node hlt
      have HINV4 : Hid (ShInv w4 g ns (i + 1) i vs) := hinv4
      have HM4 : Hid (Mv g w3 w4) := m4
      have HB4 : Hid (Below w.heap.size w w4) := (hbl.trans (b3.mono hbl.size)).trans (m4.below HG.out (Nat.le_trans hbl.size b3.size))
      have d4 : w4.cell? ⟨wr.heap.size, 1, none⟩ = some (.int .i64 (nd ns i).par) := by
        rw [World.cell?_of_block (w := w3) (a := ⟨wr.heap.size, 1, none⟩) (m4.block wr.heap.size (World.block_lt_of_cell? _ _ d1) (by have := hinv.row.lt; omega))]
        exact d1
      have HG4 : Hid (g < w4.heap.size) := hinv4.row.lt
      by_cases hi0 : i = 0
      · have HI0 : Hid (i = 0) := hi0
        have hi1 : ¬ (0 : Int) < (i : Int) := by omega
        clear hinv hinv3 hinv4 m4 hl2 hi0
        generalize nd ns i = n at *
        go_wp2
        go_roundw
        case rel =>
          refine ⟨i + 1, vs, by omega, by go_num, ?_, HB4.out⟩
          have := HINV4.out
          rw [HI0.out] at this ⊢
          exact this.first
        case measure => simp [intOf]; omega
      · obtain ⟨hp0, hp1⟩ := hm.out.par i (by omega) hlt
        obtain ⟨p, hp⟩ := Int.eq_ofNat_of_zero_le hp0
        rw [hp] at hp1
        have HP : Hid (∀ q, q = i → (nd ns q).par = (p : Int)) := fun q e => by rw [e]; exact hp
        have hpi : p < i := by omega
        have hi1 : 1 ≤ i := by omega
        have c3 := hinv4.row.cell (p * 4 + 3) (by omega)
        have z3 := hinv4.row.fz (p * 4 + 3) (by omega)
        rw [shC_kids] at c3
        obtain ⟨u, hu⟩ : ∃ u, u = vs p := ⟨_, rfl⟩
        rw [← hu] at c3
        have HU : Hid (u = vs p) := hu
        obtain ⟨L, hL⟩ : ∃ L, L = (kidsTo ns p i).length := ⟨_, rfl⟩
        have HL : Hid (L = (kidsTo ns p i).length) := hL
        have hL8 : L ≤ 8 := by have := length_kidsTo ns p i; omega
        have HOWN : Hid (w4.ownsRow (g + 1) 157 1 u L (ptrs g (kidsTo ns p i))) := by
          have := hinv4.own p (by omega)
          unfold Hid
          rw [hu, hL]
          exact this
        have HFAR : Hid (u.ownBlock ≠ some g) := fun e => by have := (HOWN.out.lt g e).1; omega
        clear hinv hinv3 hinv4 m4 hl2 hu hL hi0 hp0 hp1
        generalize nd ns i = n at *
        obtain ⟨nk, np, nn⟩ := n
        obtain rfl : np = (p : Int) := hp
        have j0 : (0 : Int) ≤ (p : Int) := Int.natCast_nonneg _
        have j1 : (p : Int) < (ns.length : Int) := by omega
        have j2 : (i : Int) < (ns.length : Int) := by omega
        have j3 : (0 : Int) < (i : Int) := by omega
        go_wp2_with fail
        clear p0 p1 p2 e3 d0 d1 d2 f0 f1 f2 g0 g1 g2 e4 d4
        refine wp_region_noPanic ?_
        refine wp_region_any (by kernel_rfl) ?_
        try (change wpAny _ _ _ _ _ _ _ (World.drew _))
        refine wpAny_take (i := 0) (v := ?_) rfl (by kernel_rfl) (by kernel_rfl) (by kernel_rfl) (fun _ _ _ h => h) (Or.inl ⟨by rfl, ?hy⟩) ?_
        case hy => (intro w; go_simp; try with_reducible rfl)
        refine wpAny_take (i := 1) (v := ?_) rfl (by kernel_rfl) (by kernel_rfl) (by kernel_rfl) (fun _ _ _ h => h) (Or.inl ⟨by rfl, ?hy⟩) ?_
        case hy => (intro w; go_simp; try with_reducible rfl)
        refine wpAny_take (i := 2) (v := ?_) rfl (by kernel_rfl) (by kernel_rfl) (by kernel_rfl) (fun _ _ _ h => h) (Or.inl ⟨by rfl, ?hy⟩) ?_
        case hy => (intro w; go_simp; try with_reducible rfl)
        refine wpAny_take (i := 3) (v := ?_) rfl (by kernel_rfl) (by kernel_rfl) (by kernel_rfl) (fun _ _ _ h => h) (Or.inl ⟨by rfl, ?hy⟩) ?_
        case hy => (intro w; go_simp; try with_reducible rfl)
        refine wpAny_take (i := 5) (v := ?_) rfl (by kernel_rfl) (by kernel_rfl) (by kernel_rfl) (fun _ _ _ h => h) (Or.inl ⟨by rfl, ?hy⟩) ?_
        case hy => (intro w; go_simp; try with_reducible rfl)
        refine wpAny_take (i := 6) (v := ?_) rfl (by kernel_rfl) (by kernel_rfl) (by kernel_rfl) (fun _ _ _ h => h) (Or.inl ⟨by rfl, ?hy⟩) ?_
        case hy => (intro w; go_simp; try with_reducible rfl)
        refine wpAny_take (i := 7) (v := ?_) rfl (by kernel_rfl) (by kernel_rfl) (by kernel_rfl) (fun _ _ _ h => h) (Or.inl ⟨by rfl, ?hy⟩) ?_
        case hy => (intro w; go_simp; try with_reducible rfl)
        refine wpAny_ready (rs := [4, 8]) (by kernel_rfl) (by simp) ?_
        refine AllReady.cons rfl (fun K hK => ?_) (AllReady.cons rfl (fun K hK => ?_) AllReady.nil)
        · go_simp
          refine hK _ _ ?_
          clear hK K
          refine wpAny_ready (rs := [8]) (by kernel_rfl) (by simp) ?_
          refine AllReady.cons rfl (fun K hK => ?_) AllReady.nil
          go_simp
          refine hK _ _ ?_
          clear hK K
          refine wpAny_ready (rs := [9]) (by kernel_rfl) (by simp) ?_
          refine AllReady.cons rfl (fun K hK => ?_) AllReady.nil
          refine step_append_lies _ (by rfl) _ _ _ (by rfl) (g + 1) 157 i55 _ 1 8 Tryz.underlying190 hi hz0 hz1 hz2 rfl (by omega) u L (ptrs g (kidsTo ns p i)) (by rfl) (((HOWN.out).alloc _).drew) ⟨w4.heap.size, 0, none⟩ 1 1 [.pointer (some ⟨g, i * 4, none⟩)] (by rfl) (by rfl) (World.news_of_block (cs := #[.pointer (some ⟨g, i * 4, none⟩)]) (t := 157) (fr := (0, 0)) (heap_alloc_new w4 _)) (by simp [Value.oneCell']) (by omega) (by unfold maxLen; omega) (by omega) (by have := HG4.out; simp; omega) (w4.heap.size + 1) (by simp) ?_
          intro g' cp w5 hown5 hgrow hg' _
          have b4a : Below w4.heap.size w4 (w4.alloc (.cells #[.pointer (some ⟨g, i * 4, none⟩)] 157)).drew := ((Below.refl _ _).alloc (Nat.le_refl _) _).drew
          have hgr : w4.grownBy w5 u.ownBlock := grow_first b4a hgrow
          have c5 : w5.cell? ⟨g, p * 4 + 3, none⟩ = some u := (hgr.cell_far ⟨g, p * 4 + 3, none⟩ HG4.out (Ne.symm HFAR.out)).trans c3
          have z5 : w5.frozen? ⟨g, p * 4 + 3, none⟩ = false := (hgr.frozen_far ⟨g, p * 4 + 3, none⟩ HG4.out (Ne.symm HFAR.out)).trans z3
          have H5 : Hid (ShInv (w5.setCell ⟨g, p * 4 + 3, none⟩ (.slice (some ⟨g', 0, none⟩) (L + 1) cp)) g ns (i + 1) (i + 1) (fun j => if j = p then .slice (some ⟨g', 0, none⟩) (L + 1) cp else vs j)) := by
            have hl := HL.out
            have hu := HU.out
            unfold Hid
            rw [hl] at hown5 ⊢
            rw [hu] at hgr hg'
            exact HINV4.out.kid (by omega) hi1 (HP.out i rfl) hown5 hgr (hg'.imp id (fun e => by omega))
          have HB5 : Hid (Below w.heap.size w (w5.setCell ⟨g, p * 4 + 3, none⟩ (.slice (some ⟨g', 0, none⟩) (L + 1) cp))) := (HB4.out.grown hgr HB4.out.size (fun k hk => by have := (HOWN.out.lt k hk).1; have := HG.out; omega)).setCell HG.out _
          refine hK _ _ ?_
          clear hK K hown5 hgrow hgr hg' b4a
          refine wpAny_take (i := 10) (v := ?_) rfl (by kernel_rfl) (by kernel_rfl) (by kernel_rfl) (fun _ _ _ h => h) (Or.inl ⟨by rfl, ?hy⟩) ?_
          case hy => (intro w; go_simp; try with_reducible rfl)
          refine wpAny_take (i := 11) (v := ?_) rfl (by kernel_rfl) (by kernel_rfl) (by kernel_rfl) (fun _ _ _ h => h) (Or.inl ⟨by rfl, ?hy⟩) ?_
          case hy => (intro w; go_simp; try with_reducible rfl)
          refine wpAny_ready (rs := [12]) (by kernel_rfl) (by simp) ?_
          refine AllReady.cons rfl (fun K hK => ?_) AllReady.nil
          go_simp
          refine hK _ _ ?_
          clear hK K
          refine wpAny_done (by kernel_rfl) ?_ _
          refine NoPanic.normal ?_
          go_wp2
          go_roundw
          case rel => exact ⟨i + 1, _, by omega, by go_num, H5.out, HB5.out⟩
          case measure => simp [intOf]; omega
        · go_simp
          refine hK _ _ ?_
          clear hK K
          refine wpAny_ready (rs := [4]) (by kernel_rfl) (by simp) ?_
          refine AllReady.cons rfl (fun K hK => ?_) AllReady.nil
          have c3a : ((w4.alloc (.cells #[.pointer (some ⟨g, i * 4, none⟩)] 157)).drew).cell? ⟨g, p * 4 + 3, none⟩ = some u := cell_later (((Below.refl w4.heap.size w4).alloc (Nat.le_refl _) _).drew) c3
          go_simp
          refine hK _ _ ?_
          clear hK K c3a
          refine wpAny_ready (rs := [9]) (by kernel_rfl) (by simp) ?_
          refine AllReady.cons rfl (fun K hK => ?_) AllReady.nil
          refine step_append_lies _ (by rfl) _ _ _ (by rfl) (g + 1) 157 i55 _ 1 8 Tryz.underlying190 hi hz0 hz1 hz2 rfl (by omega) u L (ptrs g (kidsTo ns p i)) (by rfl) (((HOWN.out).alloc _).drew) ⟨w4.heap.size, 0, none⟩ 1 1 [.pointer (some ⟨g, i * 4, none⟩)] (by rfl) (by rfl) (World.news_of_block (cs := #[.pointer (some ⟨g, i * 4, none⟩)]) (t := 157) (fr := (0, 0)) (heap_alloc_new w4 _)) (by simp [Value.oneCell']) (by omega) (by unfold maxLen; omega) (by omega) (by have := HG4.out; simp; omega) (w4.heap.size + 1) (by simp) ?_
          intro g' cp w5 hown5 hgrow hg' _
          have b4a : Below w4.heap.size w4 (w4.alloc (.cells #[.pointer (some ⟨g, i * 4, none⟩)] 157)).drew := ((Below.refl _ _).alloc (Nat.le_refl _) _).drew
          have hgr : w4.grownBy w5 u.ownBlock := grow_first b4a hgrow
          have c5 : w5.cell? ⟨g, p * 4 + 3, none⟩ = some u := (hgr.cell_far ⟨g, p * 4 + 3, none⟩ HG4.out (Ne.symm HFAR.out)).trans c3
          have z5 : w5.frozen? ⟨g, p * 4 + 3, none⟩ = false := (hgr.frozen_far ⟨g, p * 4 + 3, none⟩ HG4.out (Ne.symm HFAR.out)).trans z3
          have H5 : Hid (ShInv (w5.setCell ⟨g, p * 4 + 3, none⟩ (.slice (some ⟨g', 0, none⟩) (L + 1) cp)) g ns (i + 1) (i + 1) (fun j => if j = p then .slice (some ⟨g', 0, none⟩) (L + 1) cp else vs j)) := by
            have hl := HL.out
            have hu := HU.out
            unfold Hid
            rw [hl] at hown5 ⊢
            rw [hu] at hgr hg'
            exact HINV4.out.kid (by omega) hi1 (HP.out i rfl) hown5 hgr (hg'.imp id (fun e => by omega))
          have HB5 : Hid (Below w.heap.size w (w5.setCell ⟨g, p * 4 + 3, none⟩ (.slice (some ⟨g', 0, none⟩) (L + 1) cp))) := (HB4.out.grown hgr HB4.out.size (fun k hk => by have := (HOWN.out.lt k hk).1; have := HG.out; omega)).setCell HG.out _
          refine hK _ _ ?_
          clear hK K hown5 hgrow hgr hg' b4a
          refine wpAny_take (i := 10) (v := ?_) rfl (by kernel_rfl) (by kernel_rfl) (by kernel_rfl) (fun _ _ _ h => h) (Or.inl ⟨by rfl, ?hy⟩) ?_
          case hy => (intro w; go_simp; try with_reducible rfl)
          refine wpAny_take (i := 11) (v := ?_) rfl (by kernel_rfl) (by kernel_rfl) (by kernel_rfl) (fun _ _ _ h => h) (Or.inl ⟨by rfl, ?hy⟩) ?_
          case hy => (intro w; go_simp; try with_reducible rfl)
          refine wpAny_ready (rs := [12]) (by kernel_rfl) (by simp) ?_
          refine AllReady.cons rfl (fun K hK => ?_) AllReady.nil
          go_simp
          refine hK _ _ ?_
          clear hK K
          refine wpAny_done (by kernel_rfl) ?_ _
          refine NoPanic.normal ?_
          go_wp2
          go_roundw
          case rel => exact ⟨i + 1, _, by omega, by go_num, H5.out, HB5.out⟩
          case measure => simp [intOf]; omega
    · obtain rfl : i = ns.length := by omega
      have HINV : Hid (ShInv wr g ns ns.length ns.length vs) := hinv
      clear hinv
      have j0 : (0 : Int) ≤ (a : Int) := Int.natCast_nonneg _
      have j1 : (a : Int) < (ns.length : Int) := by omega
      go_wp2
      go_ret
      exact ⟨g, vs, rfl, HINV.out, HG.out, hbl⟩
end Go.Proofs.YtcpfhfdgfcilaaaGreatDoor.Val
namespace Go.Proofs.YtcpfhfdgfcilaaaGreatDoor.Val
open Go.ChangeShapes Go.WideShapes Go.ChangeAt Go.RowKit
open Tree

set_option maxRecDepth 20000 in
set_option maxHeartbeats 1600000 in
theorem oneK (b : Nat) (f : Nat → Bool) (x : Addr) (cap : Nat) (ps : List ByteArray) (hlen : ps.length ≤ 65536) (w : World) (hl : KLies w x ps)
    (hstep : Hid (∀ (k : Nat) (v : World), k < ps.length → Below w.heap.size w v → Calls Tryz.prog 191 #[.int .i64 (k : Int), .agg #[.int .i64 (kindOf (bl (ps.getD k ByteArray.empty))), .string (ps.getD k ByteArray.empty), .string (bodyS (ps.getD k ByteArray.empty))], .pointer (some ⟨b, 0, none⟩)] v fun r v' => r = .returned (.bool (f k)) ∧ Below v.heap.size v v')) :
    Calls Tryz.prog 190 #[.slice (some x) ps.length cap, .func (.func 191) #[] #[.pointer (some ⟨b, 0, none⟩)]] w fun r w' => r = .returned (.bool (allTo f ps.length)) ∧ Below w.heap.size w w' := by
  go_enter Tryz.func190, Tryz.ntmps190
  go_wp2_with fail
  go_loopw [9] (fun t wr => ∃ k : Nat, k ≤ ps.length ∧ t = .int .i64 (k : Int) ∧ (∀ j, j < k → f j = true) ∧ Below w.heap.size w wr) (fun t _ => ps.length - (intOf t).toNat)
  case atStart => exact ⟨0, Nat.zero_le _, rfl, fun j hj => by omega, Below.refl _ _⟩
  case round =>
    obtain ⟨k, hk, rfl, hall, hbl⟩ := hrel
    have HA : Hid (∀ j, j < k → f j = true) := hall
    clear hall
    have hl2 := hl.later hbl
    by_cases hlt : k < ps.length
    · have hp := hl2.kind k hlt
      have hq := hl2.all' k hlt
      have hr := hl2.body' k hlt
      have HS : Hid (∀ (v : World), Below w.heap.size w v → Calls Tryz.prog 191 #[.int .i64 (k : Int), .agg #[.int .i64 (kindOf (bl (ps.getD k ByteArray.empty))), .string (ps.getD k ByteArray.empty), .string (bodyS (ps.getD k ByteArray.empty))], .pointer (some ⟨b, 0, none⟩)] v fun r v' => r = .returned (.bool (f k)) ∧ Below v.heap.size v v') := fun v hv => hstep.out k v hlt hv
      have HL : Hid (KLies w x ps) := hl
      clear hl2 hl hstep
      generalize ps.getD k ByteArray.empty = u at *
      generalize kindOf (bl u) = uk at *
      generalize bodyS u = ub at *
      obtain ⟨w4, e4, x4, b4, z4⟩ := box3 wr uk u ub
      have d0 := x4.c0
      have d1 := x4.c1
      have d2 := x4.c2
      have hb4 : Below w.heap.size w w4 := hbl.trans (b4.mono hbl.size)
      clear z4 x4 b4
      go_wp2_with fail
      refine (HS.out w4 hb4).mono ?_
      rintro e w' ⟨rfl, hb'⟩
      have HB' : Hid (Below w.heap.size w w') := hb4.trans (hb'.mono hb4.size)
      clear hb' hb4 d0 d1 d2 e4 hp hq hr
      cases hfk : f k
      · have HF : Hid (allTo f ps.length = false) := allTo_no hlt hfk
        clear hfk
        go_wp2
        go_ret
        exact ⟨ret_bool HF.out.symm, HB'.out⟩
      · have HF : Hid (f k = true) := hfk
        clear hfk
        go_wp2
        go_roundw
        case rel =>
          refine ⟨k + 1, by omega, by go_num, fun j hj => ?_, HB'.out⟩
          by_cases e : j = k
          · rw [e]; exact HF.out
          · exact HA.out j (by omega)
        case measure => simp [intOf]; omega
    · obtain rfl : k = ps.length := by omega
      have HF : Hid (allTo f ps.length = true) := allTo_of HA.out
      go_wp2
      go_ret
      exact ⟨ret_bool HF.out.symm, hbl⟩
/-- An empty list of values. -/
theorem oneK0 (b : Nat) (o : Option Addr) (cap : Nat) (w : World) :
    Calls Tryz.prog 190 #[.slice o 0 cap, .func (.func 191) #[] #[.pointer (some ⟨b, 0, none⟩)]] w fun r w' => r = .returned (.bool true) ∧ Below w.heap.size w w' := by
  go_enter Tryz.func190, Tryz.ntmps190
  go_wp2_with fail
  go_loopw [9] (fun t wr => t = .int .i64 0 ∧ wr = w) (fun _ _ => 0)
  case atStart => exact ⟨rfl, rfl⟩
  case round =>
    obtain ⟨rfl, rfl⟩ := hrel
    go_wp2
    go_ret
    exact ⟨rfl, Below.refl _ _⟩
/-- What a row of kids is. -/
theorem ShInv.kids_at {w : World} {g : Nat} {ns : List Nd} {vs : Nat → Value} (h : ShInv w g ns ns.length ns.length vs) (a : Nat) (ha : a < ns.length) :
    ∃ o cap, vs a = .slice o (kids ns a).length cap ∧ (1 ≤ (kids ns a).length → ∃ x, o = some x ∧ ∀ j, j < (kids ns a).length → w.cell? (x.add j) = some (.pointer (some ⟨g, (kids ns a).getD j 0 * 4, none⟩))) := by
  have h1 := h.own a ha
  have hk : kidsTo ns a ns.length = kids ns a := rfl
  rw [hk] at h1
  obtain ⟨o, cap, e⟩ := own_slice h1
  rw [e] at h1
  refine ⟨o, cap, e, fun h2 => ?_⟩
  rcases h1.2 with ⟨_, c⟩ | ⟨g', cap', cur, h0, _⟩
  · omega
  · injection h0 with h3 _ _
    subst h3
    refine ⟨_, rfl, fun j hj => h1.cells rfl j _ ?_⟩
    unfold ptrs
    rw [List.getElem?_map, List.getElem?_eq_getElem hj, List.getD_eq_getElem?_getD, List.getElem?_eq_getElem hj]
    rfl
/-- What fits answers of a value that is no deeper than told. -/
def FitsC (g : Nat) (ns : List Nd) (vs : Nat → Value) (f : Nat) : Prop := ∀ (a : Nat) (v : ByteArray) (w : World), a < ns.length → v.size ≤ 65536 → below f (bl v) = some v.size → ShInv w g ns ns.length ns.length vs → HomeE w →
  Calls Tryz.prog 155 #[.pointer (some ⟨g, a * 4, none⟩), .agg #[.int .i64 (kindOf (bl v)), .string v, .string (bodyS v)]] w fun r w' => r = .returned (.bool (fitsF ns f a v)) ∧ Below w.heap.size w w'
set_option maxRecDepth 20000 in
set_option maxHeartbeats 1600000 in
theorem kidFits (g : Nat) (ns : List Nd) (vs : Nat → Value) (f : Nat) (ih : Hid (FitsC g ns vs f)) (b a i : Nat) (ha : a < ns.length) (hk : (kids ns a).length = 1) (hkl : (kids ns a).getD 0 0 < ns.length) (v : ByteArray) (hs : v.size ≤ 65536) (hv : Hid (below f (bl v) = some v.size)) (w : World) (hb : w.cell? ⟨b, 0, none⟩ = some (.pointer (some ⟨g, a * 4, none⟩))) (hi : Hid (ShInv w g ns ns.length ns.length vs)) (hw : Hid (HomeE w)) :
    Calls Tryz.prog 191 #[.int .i64 (i : Int), .agg #[.int .i64 (kindOf (bl v)), .string v, .string (bodyS v)], .pointer (some ⟨b, 0, none⟩)] w fun r w' => r = .returned (.bool (fitsF ns f ((kids ns a).getD 0 0) v)) ∧ Below w.heap.size w w' := by
  obtain ⟨w1, e1, x1, b1, z1⟩ := box3 w (kindOf (bl v)) v (bodyS v)
  have d0 := x1.c0
  have d1 := x1.c1
  have d2 := x1.c2
  have hb1 := cell_later b1 hb
  have HI1 : Hid (ShInv w1 g ns ns.length ns.length vs) := hi.out.later b1
  have HW1 : Hid (HomeE w1) := hw.out.later b1
  obtain ⟨o, cap, e2, h2⟩ := HI1.out.kids_at a ha
  obtain ⟨x, rfl, h3⟩ := h2 (by omega)
  have c3 := HI1.out.row.cell (a * 4 + 3) (by omega)
  rw [shC_kids, e2, hk] at c3
  have c4 := h3 0 (by omega)
  rw [show x.add 0 = x from by unfold Addr.add; split <;> simp_all] at c4
  have B1 : Hid (Below w.heap.size w w1) := b1
  have HVV : Hid (∀ q, q = v → below f (bl q) = some q.size) := fun q e => by rw [e]; exact hv.out
  have HCC : Hid (∀ q w2, q = v → ShInv w2 g ns ns.length ns.length vs → HomeE w2 → Calls Tryz.prog 155 #[.pointer (some ⟨g, (kids ns a).getD 0 0 * 4, none⟩), .agg #[.int .i64 (kindOf (bl q)), .string q, .string (bodyS q)]] w2 fun r w' => r = .returned (.bool (fitsF ns f ((kids ns a).getD 0 0) v)) ∧ Below w2.heap.size w2 w') := fun q w2 e h1 h2 => by
    rw [e]
    exact ih.out _ v w2 hkl hs hv.out h1 h2
  clear z1 x1 b1 h2 h3 e2 hb
  generalize (kids ns a).getD 0 0 = c at *
  go_enter Tryz.func191, Tryz.ntmps191
  go_wp2_with fail
  go_region_with (go_at_call 155; refine (HCC.out v _ rfl (HI1.out.later (drewN_below _ 1)) (HW1.out.later (drewN_below _ 1))).mono ?_; rintro e w2 ⟨rfl, b2⟩)
  all_goals
    go_wp2
    go_ret
    exact ⟨rfl, bel2 B1.out (bel2 (drewN_below _ 1) b2)⟩
set_option maxRecDepth 20000 in
set_option maxHeartbeats 1600000 in
theorem oneS (g b4 b5 : Nat) (f : Nat → Bool) (x : Addr) (cap : Nat) (ks : List Nat) (hlen : ks.length ≤ 65536) (w : World) (hl : Hid (∀ j, j < ks.length → w.cell? (x.add j) = some (.pointer (some ⟨g, ks.getD j 0 * 4, none⟩))))
    (hstep : Hid (∀ (k : Nat) (v : World), k < ks.length → Below w.heap.size w v → Calls Tryz.prog 220 #[.int .i64 (k : Int), .pointer (some ⟨g, ks.getD k 0 * 4, none⟩), .pointer (some ⟨b5, 0, none⟩), .pointer (some ⟨b4, 0, none⟩)] v fun r v' => r = .returned (.bool (f k)) ∧ Below v.heap.size v v')) :
    Calls Tryz.prog 219 #[.slice (some x) ks.length cap, .func (.func 220) #[] #[.pointer (some ⟨b5, 0, none⟩), .pointer (some ⟨b4, 0, none⟩)]] w fun r w' => r = .returned (.bool (allTo f ks.length)) ∧ Below w.heap.size w w' := by
  go_enter Tryz.func219, Tryz.ntmps219
  go_wp2_with fail
  go_loopw [9] (fun t wr => ∃ k : Nat, k ≤ ks.length ∧ t = .int .i64 (k : Int) ∧ (∀ j, j < k → f j = true) ∧ Below w.heap.size w wr) (fun t _ => ks.length - (intOf t).toNat)
  case atStart => exact ⟨0, Nat.zero_le _, rfl, fun j hj => by omega, Below.refl _ _⟩
  case round =>
    obtain ⟨k, hk, rfl, hall, hbl⟩ := hrel
    have HA : Hid (∀ j, j < k → f j = true) := hall
    clear hall
    by_cases hlt : k < ks.length
    · have hp := cell_later hbl (hl.out k hlt)
      have HS : Hid (∀ (v : World), Below w.heap.size w v → Calls Tryz.prog 220 #[.int .i64 (k : Int), .pointer (some ⟨g, ks.getD k 0 * 4, none⟩), .pointer (some ⟨b5, 0, none⟩), .pointer (some ⟨b4, 0, none⟩)] v fun r v' => r = .returned (.bool (f k)) ∧ Below v.heap.size v v') := fun v hv => hstep.out k v hlt hv
      clear hstep
      generalize ks.getD k 0 = u at *
      go_wp2_with fail
      refine (HS.out wr hbl).mono ?_
      rintro e w' ⟨rfl, hb'⟩
      have HB' : Hid (Below w.heap.size w w') := hbl.trans (hb'.mono hbl.size)
      clear hb' hp
      cases hfk : f k
      · have HF : Hid (allTo f ks.length = false) := allTo_no hlt hfk
        clear hfk
        go_wp2
        go_ret
        exact ⟨ret_bool HF.out.symm, HB'.out⟩
      · have HF : Hid (f k = true) := hfk
        clear hfk
        go_wp2
        go_roundw
        case rel =>
          refine ⟨k + 1, by omega, by go_num, fun j hj => ?_, HB'.out⟩
          by_cases e : j = k
          · rw [e]; exact HF.out
          · exact HA.out j (by omega)
        case measure => simp [intOf]; omega
    · obtain rfl : k = ks.length := by omega
      have HF : Hid (allTo f ks.length = true) := allTo_of HA.out
      go_wp2
      go_ret
      exact ⟨ret_bool HF.out.symm, hbl⟩
set_option maxRecDepth 20000 in
set_option maxHeartbeats 1600000 in
theorem pairStep (g : Nat) (ns : List Nd) (vs : Nat → Value) (f : Nat) (ih : Hid (FitsC g ns vs f)) (b4 b5 i c : Nat) (y : Addr) (cap : Nat) (ps : List ByteArray) (hc : c < ns.length) (hi : i < ps.length) (hs : (ps.getD i ByteArray.empty).size ≤ 65536) (hv : Hid (below f (bl (ps.getD i ByteArray.empty)) = some (ps.getD i ByteArray.empty).size)) (w : World)
    (h5 : w.cell? ⟨b5, 0, none⟩ = some (.func (.func 155) #[] #[])) (h4 : w.cell? ⟨b4, 0, none⟩ = some (.slice (some y) ps.length cap)) (hy : Hid (KLies w y ps)) (hi2 : Hid (ShInv w g ns ns.length ns.length vs)) (hw : Hid (HomeE w)) :
    Calls Tryz.prog 220 #[.int .i64 (i : Int), .pointer (some ⟨g, c * 4, none⟩), .pointer (some ⟨b5, 0, none⟩), .pointer (some ⟨b4, 0, none⟩)] w fun r w' => r = .returned (.bool (fitsF ns f c (ps.getD i ByteArray.empty))) ∧ Below w.heap.size w w' := by
  have d0 := hy.out.kind i hi
  have d1 := hy.out.all' i hi
  have d2 := hy.out.body' i hi
  have j0 : (0 : Int) ≤ (i : Int) := Int.natCast_nonneg _
  have j1 : (i : Int) < (ps.length : Int) := by omega
  have HCC : Hid (∀ w2, ShInv w2 g ns ns.length ns.length vs → HomeE w2 → Calls Tryz.prog 155 #[.pointer (some ⟨g, c * 4, none⟩), .agg #[.int .i64 (kindOf (bl (ps.getD i ByteArray.empty))), .string (ps.getD i ByteArray.empty), .string (bodyS (ps.getD i ByteArray.empty))]] w2 fun r w' => r = .returned (.bool (fitsF ns f c (ps.getD i ByteArray.empty))) ∧ Below w2.heap.size w2 w') := fun w2 h1 h2 => ih.out _ _ w2 hc hs hv.out h1 h2
  clear hv hs
  generalize ps.getD i ByteArray.empty = v at *
  go_enter Tryz.func220, Tryz.ntmps220
  go_wp2_with fail
  go_region_with (go_at_call 155; refine (HCC.out _ (hi2.out.later (drewN_below _ 1)) (hw.out.later (drewN_below _ 1))).mono ?_; rintro e w2 ⟨rfl, b2⟩)
  all_goals
    go_wp2
    go_ret
    exact ⟨rfl, bel2 (drewN_below _ 1) b2⟩
end Go.Proofs.YtcpfhfdgfcilaaaGreatDoor.Val
namespace Go.Proofs.YtcpfhfdgfcilaaaGreatDoor.Val
open Go.ChangeShapes Go.WideShapes Go.ChangeAt Go.RowKit
open Tree

/-- What the values of a nest are, for the next step down. -/
structure DownsP (f : Nat) (ps : List ByteArray) : Prop where
  size : ∀ p ∈ ps, p.size ≤ 65536
  val : ∀ p ∈ ps, below f (bl p) = some p.size
set_option maxRecDepth 20000 in
set_option maxHeartbeats 1600000 in
theorem pairC (g : Nat) (ns : List Nd) (vs : Nat → Value) (f : Nat) (ih : Hid (FitsC g ns vs f)) (ks : List Nat) (hk1 : 1 ≤ ks.length) (hk8 : ks.length ≤ 8) (hkl : Hid (∀ j, j < ks.length → ks.getD j 0 < ns.length)) (x : Addr) (capx : Nat) (o : Option Addr) (cap B : Nat) (ps : List ByteArray) (hd : Hid (DownsP f ps)) (w : World)
    (hx : Hid (∀ j, j < ks.length → w.cell? (x.add j) = some (.pointer (some ⟨g, ks.getD j 0 * 4, none⟩)))) (hown : Hid (w.ownsRow B 154 3 (.slice o ps.length cap) ps.length (cellsK ps))) (hi : Hid (ShInv w g ns ns.length ns.length vs)) (hw : Hid (HomeE w)) :
    Calls Tryz.prog 192 #[.slice (some x) ks.length capx, .slice o ps.length cap, .func (.func 155) #[] #[]] w fun r w' => r = .returned (.bool (decide (ps.length = ks.length) && (ks.zip ps).all fun q => fitsF ns f q.1 q.2)) ∧ Below w.heap.size w w' := by
  obtain ⟨w1, e1, s1, c1, b1⟩ := boxed w (.slice o ps.length cap) 193
  obtain ⟨w2, e2, s2, c2, b2⟩ := boxed w1 (.func (.func 155) #[] #[]) 198
  have c3 := cell_later b2 c1
  have B2 : Hid (Below w.heap.size w w2) := bel2 b1 b2
  by_cases he : ps.length = ks.length
  · have HE : Hid (ps.length = ks.length) := he
    have hq : (((ks.length : Nat) : Int) == ((ps.length : Nat) : Int)) = true := by rw [he]; exact beq_self_eq_true _
    obtain ⟨y, rfl, hy⟩ := row_lies hown.out (by omega)
    have HY : Hid (KLies w y ps) := hy
    have C3 : Hid (w2.cell? ⟨w.heap.size, 0, none⟩ = some (.slice (some y) ps.length cap)) := c3
    have C2 : Hid (w2.cell? ⟨w1.heap.size, 0, none⟩ = some (.func (.func 155) #[] #[])) := c2
    clear hy s1 s2 c1 b1 b2 he
    go_enter Tryz.func192, Tryz.ntmps192
    go_wp2_with fail
    clear e1 e2 c2 c3
    refine (oneS g w.heap.size w1.heap.size (fun i => fitsF ns f (ks.getD i 0) (ps.getD i ByteArray.empty)) x capx ks (by omega) w2 (fun j hj => cell_later B2.out (hx.out j hj)) (fun k v hk hv => ?_)).mono ?_
    · have hkp : k < ps.length := by have := HE.out; omega
      have hB := bel2 B2.out hv
      exact pairStep g ns vs f ih w.heap.size w1.heap.size k (ks.getD k 0) y cap ps (hkl.out k hk) hkp (hd.out.size _ (getD_memT ps k hkp)) (hd.out.val _ (getD_memT ps k hkp)) v (cell_later hv C2.out) (cell_later hv C3.out) (HY.out.later hB) (hi.out.later hB) (hw.out.later hB)
    · rintro e w3 ⟨rfl, b3⟩
      go_wp2
      go_ret
      refine ⟨ret_bool ?_, bel2 B2.out b3⟩
      rw [zip_to ks ps HE.out, decide_eq_true HE.out, Bool.true_and]
      simp only [List.getD_eq_getElem?_getD]
  · have HE : Hid (ps.length ≠ ks.length) := he
    have hq : (((ks.length : Nat) : Int) == ((ps.length : Nat) : Int)) = false := by rw [beq_eq_false_iff_ne]; omega
    clear s1 s2 c1 b1 b2 he
    go_enter Tryz.func192, Tryz.ntmps192
    go_wp2
    go_ret
    refine ⟨ret_bool ?_, B2.out⟩
    rw [decide_eq_false HE.out, Bool.false_and]
theorem kids_ltP {ns : List Nd} (a : Nat) : ∀ j, j < (kids ns a).length → (kids ns a).getD j 0 < ns.length := by
  have key : ∀ k, ∀ u ∈ kidsTo ns a k, u < k := by
    intro k
    induction k with
    | zero => intro u hu; cases hu
    | succ k ih =>
      intro u hu
      rw [kidsTo] at hu
      split at hu
      · rcases List.mem_append.1 hu with c | c
        · have := ih u c; omega
        · rw [List.mem_singleton] at c; omega
      · have := ih u hu; omega
  intro j hj
  refine key ns.length _ ?_
  rw [List.getD_eq_getElem?_getD, List.getElem?_eq_getElem hj]
  exact List.getElem_mem hj
set_option maxRecDepth 20000 in
set_option maxHeartbeats 3200000 in
theorem fits_of (g : Nat) (ns : List Nd) (vs : Nat → Value) (hm : Hid (May ns)) (f : Nat) (hf : f ≤ 4) (ih : Hid (FitsC g ns vs f)) : FitsC g ns vs (f + 1) := by
  intro a v w ha hs hv hi hw
  have HV : Hid (val f (bl v) = some v.size) := hv
  have HI : Hid (ShInv w g ns ns.length ns.length vs) := hi
  have HW : Hid (HomeE w) := hw
  clear hv hi hw
  obtain ⟨w1, e1, s1, c1, b1⟩ := boxed w (.pointer (some ⟨g, a * 4, none⟩)) 157
  obtain ⟨w2, e2, x2, b2, z2⟩ := box3 w1 (kindOf (bl v)) v (bodyS v)
  have hB2 := bel2 b1 b2
  have B2 : Hid (Below w.heap.size w w2) := hB2
  have HI2 : Hid (ShInv w2 g ns ns.length ns.length vs) := HI.out.later hB2
  have HW2 : Hid (HomeE w2) := HW.out.later hB2
  have c2 := cell_later b2 c1
  have d0 := x2.c0
  have d1 := x2.c1
  have d2 := x2.c2
  have q0 := HI2.out.row.cell (a * 4) (by omega)
  have q2 := HI2.out.row.cell (a * 4 + 2) (by omega)
  rw [shC_kind _ _ _ _ ha] at q0
  rw [shC_null _ _ _ _ ha] at q2
  have HX2 : Hid (Bx w2 w1.heap.size (kindOf (bl v)) v (bodyS v)) := x2
  clear s1 c1 b1 b2 z2 x2 hB2
  by_cases k1 : kindOf (bl v) = -1
  · have HF : Hid (fitsF ns (f + 1) a v = (nd ns a).null) := fits_null hf hs HV.out k1
    generalize fitsF ns (f + 1) a v = R at *
    generalize nd ns a = n at *
    generalize bodyS v = vb at *
    generalize kindOf (bl v) = vk at *
    subst k1
    go_enter Tryz.func155, Tryz.ntmps155
    go_wp2
    go_ret
    exact ⟨ret_bool HF.out.symm, B2.out⟩
  have n1 : (kindOf (bl v) == -1) = false := by rw [beq_eq_false_iff_ne]; exact k1
  by_cases k2 : kindOf (bl v) ≠ (nd ns a).kind
  · have HF : Hid (fitsF ns (f + 1) a v = false) := fits_other hf hs HV.out k1 k2
    have n2 : (kindOf (bl v) != (nd ns a).kind) = true := by rw [bne_iff_ne]; exact k2
    generalize fitsF ns (f + 1) a v = R at *
    generalize nd ns a = n at *
    generalize bodyS v = vb at *
    generalize kindOf (bl v) = vk at *
    clear k1 k2
    go_enter Tryz.func155, Tryz.ntmps155
    go_wp2_with fail
    go_quiet (fail)
    go_wp2
    go_ret
    exact ⟨ret_bool HF.out.symm, bel2 B2.out (drewN_below _ _)⟩
  replace k2 : kindOf (bl v) = (nd ns a).kind := Decidable.of_not_not k2
  rw [← k2] at q0
  have n2 : (kindOf (bl v) != kindOf (bl v)) = false := by rw [bne_eq_false_iff_eq]
  have hbs := body_size v hs
  by_cases k3 : kindOf (bl v) = 2
  · have HF : Hid (fitsF ns (f + 1) a v = decide ((bodyS v).size ≤ 16)) := fits_bytes hf hs HV.out k3 (by rw [← k2]; exact k3)
    generalize fitsF ns (f + 1) a v = R at *
    generalize nd ns a = n at *
    generalize bodyS v = vb at *
    generalize kindOf (bl v) = vk at *
    subst k3
    clear k1 k2
    go_enter Tryz.func155, Tryz.ntmps155
    go_wp2_with fail
    go_quiet (fail)
    by_cases h16 : vb.size ≤ 16
    · have HF2 : Hid (R = true) := by unfold Hid; rw [HF.out]; exact decide_eq_true h16
      have h17 : ((vb.size : Nat) : Int) ≤ 16 := by omega
      clear h16
      go_wp2
      go_ret
      exact ⟨ret_bool (by rw [HF2.out]), bel2 B2.out (drewN_below _ _)⟩
    · have HF2 : Hid (R = false) := by unfold Hid; rw [HF.out]; exact decide_eq_false h16
      have h17 : ¬ ((vb.size : Nat) : Int) ≤ 16 := by omega
      clear h16
      go_wp2
      go_ret
      exact ⟨ret_bool (by rw [HF2.out]), bel2 B2.out (drewN_below _ _)⟩
  by_cases k4 : kindOf (bl v) = 3
  · obtain ⟨ps, h1, h2, h3⟩ := nest_parts hf hs HV.out (.inl k4)
    have HR : Hid (Row4 (bodyS v) ps) := h2
    have HD : Hid (DownsP f ps) := ⟨fun p hp => by
      obtain ⟨i, hi, e⟩ := List.getElem_of_mem hp
      have := h2.pos_le (i + 1)
      rw [pos_succ ps i hi, getD_text ps i hi, e] at this
      omega, h3⟩
    have HF : Hid (fitsF ns (f + 1) a v = (decide (ps.length ≤ 64) && ps.all (fitsF ns f ((kids ns a).getD 0 0)))) := fits_list h1 k4 (by rw [← k2]; exact k4)
    have hkl : (kids ns a).length = 1 := hm.out.list a ha (by rw [← k2]; exact k4)
    have HKL : Hid ((kids ns a).length = 1 ∧ (kids ns a).getD 0 0 < ns.length) := ⟨hkl, kids_ltP a 0 (by omega)⟩
    have C2 : Hid (w2.cell? ⟨w.heap.size, 0, none⟩ = some (.pointer (some ⟨g, a * 4, none⟩))) := c2
    have hpl : ps.length ≤ 65536 := Nat.le_trans h2.len hbs
    clear h1 h2 h3 hkl k1 k2 k3
    generalize fitsF ns (f + 1) a v = R at *
    generalize nd ns a = n at *
    generalize bodyS v = vb at *
    generalize kindOf (bl v) = vk at *
    subst k4
    go_enter Tryz.func155, Tryz.ntmps155
    go_wp2_with fail
    go_quiet (fail)
    have hdr := drewN_below w2 nq
    have HW3 : Hid (HomeE (w2.drewN nq)) := HW2.out.later hdr
    have B3 : Hid (Below w2.heap.size w2 (w2.drewN nq)) := hdr
    generalize w2.drewN nq = w3 at *
    have d3 := cell_later hdr d0
    have d4 := cell_later hdr d1
    have d5 := cell_later hdr d2
    clear hdr d0 d1 d2 q0 q2 c2 e1 e2 n1 n2
    go_wp2_with fail
    refine (withinC 3 v vb ps hbs HR w3 HW3).mono ?_
    rintro e w4 ⟨o, cap, rfl, hown4, b4⟩
    have B4 : Hid (Below w2.heap.size w2 w4) := bel2 B3.out b4
    have BB4 : Hid (Below w.heap.size w w4) := bel2 B2.out B4.out
    have HO4 : Hid (w4.ownsRow w3.heap.size 154 3 (.slice o ps.length cap) ps.length (cellsK ps)) := hown4
    clear hown4 b4 d3 d4 d5
    by_cases h64 : ps.length ≤ 64
    · have h65 : ((ps.length : Nat) : Int) ≤ 64 := by omega
      by_cases h0 : ps.length = 0
      · obtain rfl : ps = [] := List.eq_nil_of_length_eq_zero h0
        have HF2 : Hid (R = true) := HF.out
        clear h64 h0
        go_wp2_with fail
        refine (oneK0 w.heap.size o cap w4).mono ?_
        rintro e w5 ⟨rfl, b5⟩
        go_wp2
        go_ret
        exact ⟨ret_bool HF2.out.symm, bel2 BB4.out b5⟩
      · obtain ⟨y, rfl, hy⟩ := row_lies HO4.out (by omega)
        have HY : Hid (KLies w4 y ps) := hy
        have HF2 : Hid (R = allTo (fun i => fitsF ns f ((kids ns a).getD 0 0) (ps.getD i ByteArray.empty)) ps.length) := by
          unfold Hid
          rw [HF.out, decide_eq_true h64, Bool.true_and, all_to]
        obtain ⟨F, hF⟩ : ∃ F : Nat → Bool, ∀ i, F i = fitsF ns f ((kids ns a).getD 0 0) (ps.getD i ByteArray.empty) := ⟨_, fun _ => rfl⟩
        have HFF : Hid (∀ i, F i = fitsF ns f ((kids ns a).getD 0 0) (ps.getD i ByteArray.empty)) := hF
        clear h64 h0 hy hF
        go_wp2_with fail
        refine (oneK w.heap.size F y cap ps hpl w4 HY.out (fun k v2 hk hv2 => ?_)).mono ?_
        · have hB := bel2 B4.out hv2
          rw [HFF.out k]
          exact kidFits g ns vs f ih w.heap.size a k ha HKL.out.1 HKL.out.2 _ (HD.out.size _ (getD_memT ps k hk)) (HD.out.val _ (getD_memT ps k hk)) v2 (cell_later hB C2.out) (HI2.out.later hB) (HW2.out.later hB)
        · rintro e w5 ⟨rfl, b5⟩
          go_wp2
          go_ret
          refine ⟨ret_bool ?_, bel2 BB4.out b5⟩
          rw [HF2.out]
          exact allTo_congr fun i _ => HFF.out i
    · have h65 : ¬ ((ps.length : Nat) : Int) ≤ 64 := by omega
      have HF2 : Hid (R = false) := by unfold Hid; rw [HF.out, decide_eq_false h64, Bool.false_and]
      clear h64
      go_wp2
      go_ret
      exact ⟨ret_bool HF2.out.symm, BB4.out⟩
  by_cases k5 : kindOf (bl v) = 4
  · obtain ⟨ps, h1, h2, h3⟩ := nest_parts hf hs HV.out (.inr k5)
    have HR : Hid (Row4 (bodyS v) ps) := h2
    have HD : Hid (DownsP f ps) := ⟨fun p hp => by
      obtain ⟨i, hi, e⟩ := List.getElem_of_mem hp
      have := h2.pos_le (i + 1)
      rw [pos_succ ps i hi, getD_text ps i hi, e] at this
      omega, h3⟩
    have HF : Hid (fitsF ns (f + 1) a v = (decide (ps.length = (kids ns a).length) && ((kids ns a).zip ps).all fun q => fitsF ns f q.1 q.2)) := fits_struct h1 k5 (by rw [← k2]; exact k5)
    have hk1 : 1 ≤ (kids ns a).length := hm.out.struct a ha (by rw [← k2]; exact k5)
    have hk8 : (kids ns a).length ≤ 8 := by have h1 := length_kidsTo ns a ns.length; have h2 := hm.out.most; show (kidsTo ns a ns.length).length ≤ 8; omega
    have HKL : Hid (∀ j, j < (kids ns a).length → (kids ns a).getD j 0 < ns.length) := kids_ltP a
    obtain ⟨o, capk, e5, h5⟩ := HI2.out.kids_at a ha
    obtain ⟨x, rfl, h6⟩ := h5 hk1
    have HX : Hid (∀ j, j < (kids ns a).length → w2.cell? (x.add j) = some (.pointer (some ⟨g, (kids ns a).getD j 0 * 4, none⟩))) := h6
    have q3 := HI2.out.row.cell (a * 4 + 3) (by omega)
    rw [shC_kids, e5] at q3
    have C2 : Hid (w2.cell? ⟨w.heap.size, 0, none⟩ = some (.pointer (some ⟨g, a * 4, none⟩))) := c2
    have Q3 : Hid (w2.cell? ⟨g, a * 4 + 3, none⟩ = some (.slice (some x) (kids ns a).length capk)) := q3
    clear h1 h2 h3 k1 k2 k3 k4 e5 h5 h6
    generalize fitsF ns (f + 1) a v = R at *
    generalize nd ns a = n at *
    generalize bodyS v = vb at *
    generalize kindOf (bl v) = vk at *
    generalize kids ns a = ks at *
    subst k5
    go_enter Tryz.func155, Tryz.ntmps155
    go_wp2_with fail
    go_quiet (fail)
    have hdr := drewN_below w2 nq
    have HW3 : Hid (HomeE (w2.drewN nq)) := HW2.out.later hdr
    have B3 : Hid (Below w2.heap.size w2 (w2.drewN nq)) := hdr
    generalize w2.drewN nq = w3 at *
    have d3 := cell_later hdr d0
    have d4 := cell_later hdr d1
    have d5 := cell_later hdr d2
    have c3 := cell_later hdr c2
    have q4 := cell_later hdr q3
    have X3 : Hid (Bx w3 w1.heap.size 4 v vb) := HX2.out.later hdr
    clear hdr d0 d1 d2 q0 q2 q3 c2 e1 e2 n1 n2
    go_wp2_with fail
    go_region_with (first
      | (go_at_call 189; refine (withinC 4 v vb ps hbs HR _ (HW3.out.later (drewN_below _ 1))).mono ?_; rintro e w4 ⟨o4, cap4, rfl, hown4, b4⟩; have B4 : Hid (Below w2.heap.size w2 w4) := bel2 B3.out (bel2 (drewN_below _ 1) b4); have HO4 : Hid (w4.ownsRow w3.heap.size 154 3 (.slice o4 ps.length cap4) ps.length (cellsK ps)) := hown4; have c4 := cell_later B4.out C2.out; have q5 := cell_later B4.out Q3.out; clear hown4 b4)
      | (go_at_call 192; refine (pairC g ns vs f ih ks hk1 hk8 HKL x capk o4 cap4 w3.heap.size ps HD _ (fun j hj => cell_later B4.out (HX.out j hj)) HO4 (HI2.out.later B4.out) (HW2.out.later B4.out)).mono ?_; rintro e w5 ⟨rfl, b5⟩))
    all_goals
      go_wp2
      go_ret
      exact ⟨ret_bool HF.out.symm, bel2 B2.out (bel2 B4.out b5)⟩
  · have hin := kindOf_in (bl v)
    have HF : Hid (fitsF ns (f + 1) a v = true) := fits_leaf hf hs HV.out (by omega) k2
    have n3 : (kindOf (bl v) == 2) = false := by rw [beq_eq_false_iff_ne]; exact k3
    have n4 : (kindOf (bl v) == 3) = false := by rw [beq_eq_false_iff_ne]; exact k4
    have n5 : (kindOf (bl v) == 4) = false := by rw [beq_eq_false_iff_ne]; exact k5
    generalize fitsF ns (f + 1) a v = R at *
    generalize nd ns a = n at *
    generalize bodyS v = vb at *
    generalize kindOf (bl v) = vk at *
    clear k1 k2 k3 k4 k5 hin
    go_enter Tryz.func155, Tryz.ntmps155
    go_wp2_with fail
    go_quiet (fail)
    go_wp2
    go_ret
    exact ⟨ret_bool HF.out.symm, bel2 B2.out (drewN_below _ _)⟩
end Go.Proofs.YtcpfhfdgfcilaaaGreatDoor.Val
namespace Go.Proofs.YtcpfhfdgfcilaaaGreatDoor.Val
open Go.ChangeShapes Go.WideShapes Go.ChangeAt Go.RowKit
open Tree

theorem fits_all (g : Nat) (ns : List Nd) (vs : Nat → Value) (hm : May ns) : ∀ f, f ≤ 5 → FitsC g ns vs f := by
  intro f
  induction f with
  | zero =>
    intro _ a v w _ _ h
    cases h
  | succ f ih => exact fun hf => fits_of g ns vs hm f (by omega) (ih (by omega))
set_option maxRecDepth 20000 in
set_option maxHeartbeats 3200000 in
theorem fitsC (o : Option Addr) (cap : Nat) (ns : List Nd) (at' : Int) (v : ByteArray) (hv : v.size ≤ 9223372036854775807) (w : World) (ht : Hid (IsT w o ns)) (hw : Hid (HomeE w)) :
    Calls Tryz.prog 92 #[.agg #[.slice o ns.length cap], .int .i64 at', .string v] w fun r w' => r = .returned (.bool (fitsZ ns at' v)) ∧ Below w.heap.size w w' := by
  obtain ⟨w1, e1, s1, c1, b1⟩ := boxed w (.slice o ns.length cap) 24
  have B1 : Hid (Below w.heap.size w w1) := b1
  have HT1 : Hid (IsT w1 o ns) := ht.out.later b1
  have HW1 : Hid (HomeE w1) := hw.out.later b1
  clear s1 b1
  by_cases h0 : 0 ≤ at' ∧ at' < (ns.length : Int)
  · obtain ⟨h1, h2⟩ := h0
    have HZ : Hid (fitsZ ns at' v = (may ns && fitsF ns 8 at'.toNat v)) := by unfold Hid fitsZ; rw [decide_eq_true ⟨h1, h2⟩, Bool.true_and]
    obtain ⟨a, rfl⟩ := Int.eq_ofNat_of_zero_le h1
    rw [Int.toNat_natCast] at HZ
    have ha : a < ns.length := by omega
    generalize fitsZ ns (a : Int) v = R at *
    go_enter Tryz.func92, Tryz.ntmps92
    go_wp2_with fail
    refine (mayC o cap ns w1 HT1.out).mono ?_
    rintro e w2 ⟨rfl, b2⟩
    have c2 := cell_later b2 c1
    have B2 : Hid (Below w.heap.size w w2) := bel2 B1.out b2
    have HT2 : Hid (IsT w2 o ns) := HT1.out.later b2
    have HW2 : Hid (HomeE w2) := HW1.out.later b2
    clear e1 c1 b2
    cases hmay : may ns
    · have HF : Hid (R = false) := by unfold Hid; rw [HZ.out, hmay, Bool.false_and]
      clear hmay
      go_wp2
      go_ret
      exact ⟨ret_bool HF.out.symm, B2.out⟩
    · have HMAY : Hid (May ns) := may_of hmay
      obtain ⟨x, rfl, hx⟩ := HT2.out.some (by omega)
      have HX2 : Hid (Lies w2 x ns) := hx
      have HF : Hid (R = fitsF ns 8 a v) := by unfold Hid; rw [HZ.out, hmay, Bool.true_and]
      clear hmay hx
      go_wp2_with fail
      refine (onlyC v hv w2 HW2).mono ?_
      rintro e w3 ⟨k, u, c, ok, rfl, b3, hok⟩
      have HOK : Hid (OnlyA v k u c ok) := hok
      have c3 := cell_later b3 c2
      obtain ⟨w4, e4, x4, b4, z4⟩ := box3 w3 k u c
      have c4 := cell_later b4 c3
      have b24 := bel2 b3 b4
      have B4 : Hid (Below w.heap.size w w4) := bel2 B2.out b24
      have HX4 : Hid (Lies w4 x ns) := HX2.out.later b24
      have HW4 : Hid (HomeE w4) := HW2.out.later b24
      have HB4 : Hid (Bx w4 w3.heap.size k u c) := x4
      have d0 := x4.c0
      have d1 := x4.c1
      have d2 := x4.c2
      clear hok c2 c3 b3 b4 b24 x4 z4
      cases ok
      · have HF2 : Hid (R = false) := by
          unfold Hid
          rw [HF.out]
          rcases HOK.out with ⟨c, _⟩ | ⟨_, c⟩
          · cases c
          · rw [fitsF_succ, partsS_none c]
        go_wp2_with fail
        go_quiet (fail)
        go_wp2
        go_ret
        exact ⟨ret_bool HF2.out.symm, bel2 B4.out (drewN_below _ _)⟩
      · obtain ⟨hval, rfl, hk, hb⟩ : isVal (bl v) ∧ u = v ∧ k = kindOf (bl v) ∧ bl c = bodyOf (bl v) := by
          rcases HOK.out with ⟨_, h⟩ | ⟨c, _⟩
          · exact h
          · cases c
        have hcs := bodyS_eq hb
        have hsz : u.size ≤ 65536 := by have := hval.1; rw [bl_length] at this; exact this
        have HF2 : Hid (R = fitsF ns 5 a u) := by
          unfold Hid
          rw [HF.out]
          exact fits_fuel 5 8 a u (by omega) (by omega) hsz (by have := hval.2; rw [bl_length] at this; exact this)
        have HCC : Hid (∀ g vs (y : World), ShInv y g ns ns.length ns.length vs → HomeE y → Calls Tryz.prog 155 #[.pointer (some ⟨g, a * 4, none⟩), .agg #[.int .i64 k, .string u, .string c]] y fun r w' => r = .returned (.bool R) ∧ Below y.heap.size y w') := by
          intro g vs y hy1 hy2
          rw [HF2.out, hk, hcs]
          exact fits_all g ns vs HMAY.out 5 (Nat.le_refl _) a u y ha hsz (by have := hval.2; rw [bl_length] at this; exact this) hy1 hy2
        clear hval hk hb hcs HF HZ HOK
        go_wp2_with fail
        go_region_with (first
          | (go_at_call 154; refine (shapeOfC x cap ns a ha HMAY _ (HX4.out.later (drewN_below _ 1))).mono ?_; rintro e w5 ⟨g, vs, rfl, hi5, hg5, b5⟩; have B5 : Hid (Below w4.heap.size w4 w5) := bel2 (drewN_below _ 1) b5; have HI5 : Hid (ShInv w5 g ns ns.length ns.length vs) := hi5; have X5 := HB4.out.later B5.out; have d3 := X5.c0; have d4 := X5.c1; have d5 := X5.c2; clear hi5 b5 X5)
          | (go_at_call 155; refine (HCC.out g vs _ HI5.out (HW4.out.later B5.out)).mono ?_; rintro e w6 ⟨rfl, b6⟩))
        all_goals
          go_wp2
          go_ret
          exact ⟨rfl, bel2 B4.out (bel2 B5.out b6)⟩
  · have HF : Hid (fitsZ ns at' v = false) := by unfold Hid fitsZ; rw [decide_eq_false h0, Bool.false_and]
    generalize fitsZ ns at' v = R at *
    by_cases h1 : at' < 0
    · clear h0
      go_enter Tryz.func92, Tryz.ntmps92
      go_wp2
      go_ret
      exact ⟨ret_bool HF.out.symm, B1.out⟩
    · have h2 : (ns.length : Int) ≤ at' := by omega
      clear h0
      go_enter Tryz.func92, Tryz.ntmps92
      go_wp2
      go_ret
      exact ⟨ret_bool HF.out.symm, B1.out⟩
end Go.Proofs.YtcpfhfdgfcilaaaGreatDoor.Val
