/-
  Several texts in one: Trees of nodes as plain lists: kids, leaves, depth, levels; what a type may be; what holds of each. · A type that came in (a struct that holds a list of nodes, each a kind, a parent and a truth), opened at every node: what the walks of the laws over types are told. Over whatever program. · Rows of ints and of nodes that a call made; the kids of a node: contracts. · The way from a node up to the first one: its length, its levels; what a type may be, asked as the program asks it. · What the program's own way, hangs, isMany and May compute: contracts. · What every.One and types.May compute: contracts. · What types.May computes: its contract.
-/
import Derived.WalkKit
import Derived.ProofKit
import Derived.OpenShut
import Derived.ChangeOld
import Derived.Below
import Derived.SizedLaws
import Derived.Deep.Slices
import Derived.Deep.Strs
import Derived.Test.YtcpfhfdgfcilaaaGreatDoorProg
import GoSem.Claim
import GoSem.ClaimJoined
import GoSem.ClaimMapViews
import Derived.JoinedTies
import Derived.KernelRfl
import Derived.RowKit
import Derived.RegionTactic
import Derived.ChangeAlike
import Derived.OwnWalk
import Derived.Deep.QuietTactic
import Derived.BigQuiet
import Derived.Deep.RegionWith
namespace Go.Proofs.YtcpfhfdgfcilaaaGreatDoor.Tree

/-- A node: its kind, its parent, whether it may be nothing. -/
structure Nd where
  kind : Int
  par : Int
  null : Bool
/-- Node i, or an empty one. -/
def nd (ns : List Nd) (i : Nat) : Nd := ns.getD i ⟨0, 0, false⟩
/-- The kids of a, among the first k nodes. -/
def kidsTo (ns : List Nd) (a : Int) : Nat → List Nat
  | 0 => []
  | k + 1 => if 1 ≤ k ∧ (nd ns k).par = a then kidsTo ns a k ++ [k] else kidsTo ns a k
def kids (ns : List Nd) (a : Int) : List Nat := kidsTo ns a ns.length
def isLeaf (k : Int) : Bool := decide (k ≠ 3 ∧ k ≠ 4)
/-- A table in which each row is made of those ahead of it. -/
def tab (f : Nat → (Nat → Nat) → Nat) : Nat → List Nat
  | 0 => []
  | k + 1 => tab f k ++ [f k (fun j => (tab f k).getD j 0)]
def row (f : Nat → (Nat → Nat) → Nat) (i : Nat) : Nat := (tab f (i + 1)).getD i 0
theorem length_tab (f : Nat → (Nat → Nat) → Nat) (k : Nat) : (tab f k).length = k := by
  induction k with
  | zero => rfl
  | succ k ih => rw [tab, List.length_append, ih]; rfl
theorem tab_at (f : Nat → (Nat → Nat) → Nat) (k j : Nat) (h : j < k) : (tab f k).getD j 0 = row f j := by
  induction k with
  | zero => omega
  | succ k ih =>
    by_cases e : j = k
    · rw [e]; rfl
    · rw [tab, List.getD_eq_getElem?_getD, List.getElem?_append_left (by rw [length_tab]; omega), ← List.getD_eq_getElem?_getD]
      exact ih (by omega)
theorem row_eq (f : Nat → (Nat → Nat) → Nat) (i : Nat) : row f i = f i (fun j => (tab f i).getD j 0) := by
  unfold row
  rw [tab, List.getD_eq_getElem?_getD, List.getElem?_append_right (by rw [length_tab]; omega), length_tab]
  simp

/-- How far a node lies below the first one. -/
def depthF (ns : List Nd) (i : Nat) (g : Nat → Nat) : Nat := if i = 0 then 0 else g (nd ns i).par.toNat + 1
def depth (ns : List Nd) (i : Nat) : Nat := row (depthF ns) i
def rep1 (n : Nd) : Nat := if n.kind = 3 then 1 else 0
def def1 (n : Nd) : Nat := (if n.kind = 3 then 1 else 0) + if n.null then 1 else 0
def repF (ns : List Nd) (i : Nat) (g : Nat → Nat) : Nat := rep1 (nd ns i) + if i = 0 then 0 else g (nd ns i).par.toNat
def defF (ns : List Nd) (i : Nat) (g : Nat → Nat) : Nat := def1 (nd ns i) + if i = 0 then 0 else g (nd ns i).par.toNat
def rep (ns : List Nd) (i : Nat) : Nat := row (repF ns) i
def dfn (ns : List Nd) (i : Nat) : Nat := row (defF ns) i

/-- May node i stand where it stands? -/
def okAt (ns : List Nd) (i : Nat) : Bool :=
  decide (0 ≤ (nd ns i).kind ∧ (nd ns i).kind ≤ 4) &&
  (!(isLeaf (nd ns i).kind && decide (0 < (kids ns i).length) || decide ((nd ns i).kind = 3) && decide ((kids ns i).length ≠ 1) || decide ((nd ns i).kind = 4) && decide ((kids ns i).length < 1))) &&
  (decide (i = 0) || decide (0 ≤ (nd ns i).par ∧ (nd ns i).par < i) && decide (depth ns (nd ns i).par.toNat < 4))
def okTo (ns : List Nd) : Nat → Bool
  | 0 => true
  | k + 1 => okTo ns k && okAt ns k
def headOk (ns : List Nd) : Bool := decide (1 ≤ ns.length ∧ ns.length ≤ 8) && decide ((nd ns 0).par = -1)
def may (ns : List Nd) : Bool := headOk ns && okTo ns ns.length

theorem okTo_at (ns : List Nd) (k i : Nat) (h : okTo ns k = true) (hi : i < k) : okAt ns i = true := by
  induction k with
  | zero => omega
  | succ k ih =>
    rw [okTo, Bool.and_eq_true] at h
    by_cases e : i = k
    · rw [e]; exact h.2
    · exact ih h.1 (by omega)
theorem okTo_all (ns : List Nd) (k : Nat) (h : ∀ i, i < k → okAt ns i = true) : okTo ns k = true := by
  induction k with
  | zero => rfl
  | succ k ih => rw [okTo, ih (fun i hi => h i (by omega)), h k (by omega)]; rfl
/-- What a type that may be has. -/
structure May (ns : List Nd) : Prop where
  one : 1 ≤ ns.length
  most : ns.length ≤ 8
  first : (nd ns 0).par = -1
  kind : ∀ i, i < ns.length → 0 ≤ (nd ns i).kind ∧ (nd ns i).kind ≤ 4
  leaf : ∀ i, i < ns.length → isLeaf (nd ns i).kind = true → kids ns i = []
  list : ∀ i, i < ns.length → (nd ns i).kind = 3 → (kids ns i).length = 1
  struct : ∀ i, i < ns.length → (nd ns i).kind = 4 → 1 ≤ (kids ns i).length
  par : ∀ i, 1 ≤ i → i < ns.length → 0 ≤ (nd ns i).par ∧ (nd ns i).par < i
  deep : ∀ i, 1 ≤ i → i < ns.length → depth ns (nd ns i).par.toNat < 4
theorem may_of {ns : List Nd} (h : may ns = true) : May ns := by
  unfold may headOk at h
  simp only [Bool.and_eq_true, decide_eq_true_eq] at h
  obtain ⟨⟨⟨h1, h2⟩, h3⟩, h4⟩ := h
  have hk : ∀ i, i < ns.length → okAt ns i = true := fun i hi => okTo_at ns _ i h4 hi
  unfold okAt at hk
  refine ⟨h1, h2, h3, fun i hi => ?_, fun i hi e => ?_, fun i hi e => ?_, fun i hi e => ?_, fun i h0 hi => ?_, fun i h0 hi => ?_⟩
  all_goals
    have := hk i hi
    simp only [Bool.and_eq_true, Bool.or_eq_true, Bool.not_eq_true', Bool.or_eq_false_iff, Bool.and_eq_false_iff, decide_eq_true_eq, decide_eq_false_iff_not] at this
    obtain ⟨⟨a, ⟨b, c⟩, d⟩, e'⟩ := this
  · exact a
  · rcases b with b | b
    · rw [e] at b; cases b
    · exact List.eq_nil_of_length_eq_zero (by omega)
  · rcases c with c | c
    · exact absurd e c
    · omega
  · rcases d with d | d
    · exact absurd e d
    · omega
  · rcases e' with e' | e'
    · omega
    · exact e'.1
  · rcases e' with e' | e'
    · omega
    · exact e'.2

theorem mem_kidsTo (ns : List Nd) (a : Int) (k j : Nat) : j ∈ kidsTo ns a k ↔ 1 ≤ j ∧ j < k ∧ (nd ns j).par = a := by
  induction k with
  | zero => simp [kidsTo]
  | succ k ih =>
    rw [kidsTo]
    split
    · rename_i h
      rw [List.mem_append, ih, List.mem_singleton]
      constructor
      · rintro (h' | rfl)
        · exact ⟨h'.1, by omega, h'.2.2⟩
        · exact ⟨h.1, by omega, h.2⟩
      · intro h'
        by_cases e : j = k
        · exact .inr e
        · exact .inl ⟨h'.1, by omega, h'.2.2⟩
    · rename_i h
      rw [ih]
      constructor
      · intro h'
        exact ⟨h'.1, by omega, h'.2.2⟩
      · intro h'
        refine ⟨h'.1, ?_, h'.2.2⟩
        by_cases e : j = k
        · subst e
          exact absurd ⟨h'.1, h'.2.2⟩ h
        · omega
theorem length_kidsTo (ns : List Nd) (a : Int) (k : Nat) : (kidsTo ns a k).length ≤ k := by
  induction k with
  | zero => exact Nat.le_refl _
  | succ k ih =>
    rw [kidsTo]
    split
    · rw [List.length_append]
      exact Nat.succ_le_succ ih
    · omega
theorem May.kid {ns : List Nd} (h : May ns) {i j : Nat} (hj : j ∈ kids ns i) : i < j ∧ j < ns.length ∧ (nd ns j).par = i := by
  have := (mem_kidsTo ns i ns.length j).1 hj
  have hp := h.par j this.1 this.2.1
  exact ⟨by omega, this.2.1, this.2.2⟩
theorem May.rep_up {ns : List Nd} (h : May ns) {i : Nat} (h1 : 1 ≤ i) (hi : i < ns.length) : rep ns i = rep1 (nd ns i) + rep ns (nd ns i).par.toNat := by
  have hp := h.par i h1 hi
  unfold rep
  rw [row_eq, repF, if_neg (by omega), tab_at _ _ _ (by omega)]
theorem May.dfn_up {ns : List Nd} (h : May ns) {i : Nat} (h1 : 1 ≤ i) (hi : i < ns.length) : dfn ns i = def1 (nd ns i) + dfn ns (nd ns i).par.toNat := by
  have hp := h.par i h1 hi
  unfold dfn
  rw [row_eq, defF, if_neg (by omega), tab_at _ _ _ (by omega)]
theorem rep_first (ns : List Nd) : rep ns 0 = rep1 (nd ns 0) := by
  unfold rep
  rw [row_eq, repF, if_pos rfl, Nat.add_zero]
theorem dfn_first (ns : List Nd) : dfn ns 0 = def1 (nd ns 0) := by
  unfold dfn
  rw [row_eq, defF, if_pos rfl, Nat.add_zero]
theorem May.depth_up {ns : List Nd} (h : May ns) {i : Nat} (h1 : 1 ≤ i) (hi : i < ns.length) : depth ns i = depth ns (nd ns i).par.toNat + 1 := by
  have hp := h.par i h1 hi
  unfold depth
  rw [row_eq, depthF, if_neg (by omega), tab_at _ _ _ (by omega)]
theorem May.depth_le {ns : List Nd} (h : May ns) {i : Nat} (hi : i < ns.length) : depth ns i ≤ 4 := by
  by_cases e : i = 0
  · subst e
    unfold depth
    rw [row_eq, depthF, if_pos rfl]
    omega
  · rw [h.depth_up (by omega) hi]
    have := h.deep i (by omega) hi
    omega
end Go.Proofs.YtcpfhfdgfcilaaaGreatDoor.Tree
namespace Go.Proofs.YtcpfhfdgfcilaaaGreatDoor.Tree
open Go.ChangeShapes Go.WideShapes Go.ChangeAt Go.RowKit

/-- A node whose numbers are ints. -/
def Nd.ok (n : Nd) : Prop := (Lit.int .i64 n.kind).wf = true ∧ (Lit.int .i64 n.par).wf = true
/-- The nodes lie so, three cells each, from a on. -/
structure Lies (w : World) (a : Addr) (ns : List Nd) : Prop where
  kind : ∀ i, i < ns.length → w.cell? (a.add (i * 3)) = some (.int .i64 (ns.getD i ⟨0, 0, false⟩).kind)
  par : ∀ i, i < ns.length → w.cell? (a.add (i * 3 + 1)) = some (.int .i64 (ns.getD i ⟨0, 0, false⟩).par)
  null : ∀ i, i < ns.length → w.cell? (a.add (i * 3 + 2)) = some (.bool (ns.getD i ⟨0, 0, false⟩).null)
section
variable {H : Type} {enc : TypeId × Value → H} {P : Program} {w : World} {base : Nat} {held : Bool}

end
end Go.Proofs.YtcpfhfdgfcilaaaGreatDoor.Tree
namespace Go.Proofs.YtcpfhfdgfcilaaaGreatDoor.Tree
open Go.ChangeShapes Go.WideShapes Go.ChangeAt Go.RowKit

theorem bel {a b c : World} (h : Below a.heap.size a b) (k : Below b.heap.size b c) : Below a.heap.size a c := h.trans (k.mono h.size)
theorem ret_bool {a b : Bool} (h : a = b) : Ending.returned (.bool a) = .returned (.bool b) := by rw [h]
theorem info3 : (Tryz.prog.info? 3).map (fun i => (i.zero, i.size, i.bytes)) = some (some (.int .i64 0), 1, 8) := by kernel_rfl
theorem info46 : (Tryz.prog.info? 40).map (fun i => (i.zero, i.size, i.bytes)) = some (some (.agg #[.int .i64 0, .int .i64 0, .bool false]), 3, 24) := by kernel_rfl
/-- Ints, as cells. -/
def ints (l : List Nat) : List Value := l.map fun b => .int .i64 ((b : Nat) : Int)
theorem ints_snoc (l : List Nat) (b : Nat) : ints (l ++ [b]) = ints l ++ [.int .i64 ((b : Nat) : Int)] := by simp [ints]
theorem cell_later {w wx : World} {a : Addr} {v : Value} (hb : Below w.heap.size w wx) (h : w.cell? a = some v) : wx.cell? a = some v := (hb.cell (World.block_lt_of_cell? _ _ h)).trans h
theorem Lies.later {w wx : World} {x : Addr} {l : List Nd} (h : Lies w x l) (hb : Below w.heap.size w wx) : Lies wx x l :=
  ⟨fun i hi => cell_later hb (h.kind i hi), fun i hi => cell_later hb (h.par i hi), fun i hi => cell_later hb (h.null i hi)⟩

theorem own_mono {w : World} {b b' n : Nat} {e : TypeId} {k : Nat} {v : Value} {xs : List Value} (h : w.ownsRow b e k v n xs) (hb : b' ≤ b) : w.ownsRow b' e k v n xs := by
  refine ⟨h.1, ?_⟩
  rcases h.2 with h | ⟨g, cap, cur, h0, h1, h2⟩
  · exact .inl h
  · exact .inr ⟨g, cap, cur, h0, by omega, h2⟩
/-- The box of a type that was handed in. -/
theorem boxed (w : World) (v : Value) (t : TypeId) : ∃ w1, w.alloc (.cells #[v] t) = w1 ∧ w.heap.size < w1.heap.size ∧ w1.cell? ⟨w.heap.size, 0, none⟩ = some v ∧ Below w.heap.size w w1 :=
  ⟨_, rfl, by simp, by simp, (Below.refl _ _).alloc (Nat.le_refl _) _⟩

theorem own_slice {w : World} {b n : Nat} {e : TypeId} {k : Nat} {v : Value} {xs : List Value} (h : w.ownsRow b e k v n xs) : ∃ o c, v = .slice o n c := by
  rcases h.2 with ⟨h, h'⟩ | ⟨g, cap, cur, h0, h1, h2⟩
  · exact ⟨none, 0, by rw [h, h']⟩
  · exact ⟨_, _, h0⟩
theorem add_at {x : Addr} {w : World} {v : Value} (i j : Nat) (h : w.cell? (x.add (i + j)) = some v) : w.cell? { block := (x.add i).block, off := (x.add i).off + j } = some v := by
  have h1 : (x.add i).block = x.block := by unfold Addr.add; split <;> rfl
  have h2 : (x.add i).off = x.off + i := by unfold Addr.add; split <;> simp_all
  have h3 : (x.add (i + j)).block = x.block := by unfold Addr.add; split <;> rfl
  have h4 : (x.add (i + j)).off = x.off + (i + j) := by unfold Addr.add; split <;> simp_all
  rw [h1, h2, Nat.add_assoc]
  unfold World.cell? at h ⊢
  rw [h3, h4] at h
  split at h
  · split at h
    · cases h
    · simp_all
  · cases h
theorem Lies.kind' {w : World} {x : Addr} {l : List Nd} (h : Lies w x l) (i : Nat) (hi : i < l.length) : w.cell? (x.add (i * 3)) = some (.int .i64 (nd l i).kind) := h.kind i hi
theorem Lies.par' {w : World} {x : Addr} {l : List Nd} (h : Lies w x l) (i : Nat) (hi : i < l.length) : w.cell? { block := (x.add (i * 3)).block, off := (x.add (i * 3)).off + 1 } = some (.int .i64 (nd l i).par) :=
  add_at (i * 3) 1 (h.par i hi)
theorem Lies.null' {w : World} {x : Addr} {l : List Nd} (h : Lies w x l) (i : Nat) (hi : i < l.length) : w.cell? { block := (x.add (i * 3)).block, off := (x.add (i * 3)).off + 2 } = some (.bool (nd l i).null) :=
  add_at (i * 3) 2 (h.null i hi)
set_option maxRecDepth 20000 in
set_option maxHeartbeats 800000 in
theorem kidsC (x : Addr) (cap : Nat) (l : List Nd) (h8 : l.length ≤ 8) (a : Nat) (w : World) (hl : Lies w x l) (h0 : (nd l 0).par = -1) :
    Calls Tryz.prog 121 #[.agg #[.slice (some x) l.length cap], .int .i64 (a : Int)] w fun r w' => ∃ o c, r = .returned (.slice o (kids l a).length c) ∧ w'.ownsRow w.heap.size 3 1 (.slice o (kids l a).length c) (kids l a).length (ints (kids l a)) ∧ Below w.heap.size w w' := by
  obtain ⟨i3, hi, hz0, hz1, hz2⟩ := info_parts info3
  have H0 : Hid ((nd l 0).par = -1) := h0
  clear h0
  go_enter Tryz.func121, Tryz.ntmps121
  go_wp2_with fail
  obtain ⟨w1, e1, hs1, hc1, hb1⟩ := boxed w (.slice (some x) l.length cap) 24
  rw [e1]
  have hl1 := hl.later hb1
  clear e1 hl
  go_loopw [5, 11] (fun v t wr => ∃ (k : Nat) (o : Option Addr) (c : Nat), t = .int .i64 (k : Int) ∧ k ≤ l.length ∧ v = .slice o (kidsTo l a k).length c ∧ wr.ownsRow w1.heap.size 3 1 (.slice o (kidsTo l a k).length c) (kidsTo l a k).length (ints (kidsTo l a k)) ∧ Below w1.heap.size w1 wr) (fun _ t _ => l.length - (intOf t).toNat)
  case atStart =>
    refine ⟨0, none, 0, rfl, Nat.zero_le _, rfl, World.ownsRow_nil _ _ _ _, Below.refl _ _⟩
  case round =>
    obtain ⟨k, o, c, rfl, hk, rfl, hown, hbl⟩ := hrel
    have hc2 := cell_later hbl hc1
    have hl2 := hl1.later hbl
    have hkl := length_kidsTo l a k
    by_cases hlt : k < l.length
    · have hp := hl2.par' k (by omega)
      have hq := hl2.kind' k (by omega)
      have hr := hl2.null' k (by omega)
      have HK : Hid (kidsTo l a (k + 1) = if 1 ≤ k ∧ (nd l k).par = a then kidsTo l a k ++ [k] else kidsTo l a k) := rfl
      have HZ : Hid (k = 0 → (nd l k).par = -1) := fun e => by rw [e]; exact H0.out
      have hl3 : Hid (Lies w1 x l) := hl1
      generalize nd l k = n at *
      clear hl2 hl1
      by_cases he : n.par = a
      · have hk1 : 1 ≤ k := by
          by_cases e : k = 0
          · have := HZ.out e
            omega
          · omega
        have HN : Hid (kidsTo l a (k + 1) = kidsTo l a k ++ [k]) := by unfold Hid; rw [HK.out, if_pos ⟨hk1, he⟩]
        clear HK HZ
        generalize kidsTo l a k = p at *
        go_wp2_with (at_builtin; refine wpList_append_own _ rfl (.tmp 20) (.tmp 22) 38 rfl w1.heap.size 3 i3 (.int .i64 0) 1 8 Tryz.underlying38 hi hz0 hz1 hz2 rfl (by decide) _ p.length _ rfl ((hown.alloc _).alloc _) ⟨wr.heap.size + 1, 0, none⟩ 1 1 [.int .i64 (k : Int)] rfl rfl ?c1 ?c2 ?c3 ?c4 ?c5 ?_)
        case c1 =>
          intro j u hj
          match j, hj with
          | 0, hj => simp at hj; subst hj; simp [Addr.add]
        case c2 => intro u hu; simp at hu; subst hu; rfl
        case c3 => unfold maxLen; omega
        case c4 => omega
        case c5 => have := hbl.size; simp; omega
        intro v' w3 hown' hgrow _
        have hb3 : Below w1.heap.size w1 w3 := ((hbl.alloc hbl.size _).alloc (by have := hbl.size; simp; omega) _).grown hgrow (by have := hbl.size; simp; omega) (fun j hj => (hown.lt j hj).1)
        have hown3 : w3.ownsRow w1.heap.size 3 1 v' (p ++ [k]).length (ints (p ++ [k])) := by
          rw [ints_snoc, List.length_append]
          exact hown'
        obtain ⟨o3, c3, rfl⟩ := own_slice hown3
        clear hown hgrow hbl hown'
        go_wp2
        go_roundw
        case rel => exact ⟨k + 1, o3, c3, by go_num, by omega, by rw [HN.out], by rw [HN.out]; exact hown3, hb3⟩
        case measure => simp [intOf]; omega
      · have HN : Hid (kidsTo l a (k + 1) = kidsTo l a k) := by unfold Hid; rw [HK.out, if_neg (fun h => he h.2)]
        clear HK HZ
        go_wp2
        go_roundw
        case rel => exact ⟨k + 1, o, c, by go_num, by omega, by rw [HN.out], by rw [HN.out]; exact hown.alloc _, hbl.alloc hbl.size _⟩
        case measure => simp [intOf]; omega
    · obtain rfl : k = l.length := by omega
      go_wp2
      go_ret
      exact ⟨o, c, rfl, own_mono hown (by omega), hb1.trans (hbl.mono (by omega))⟩
end Go.Proofs.YtcpfhfdgfcilaaaGreatDoor.Tree
namespace Go.Proofs.YtcpfhfdgfcilaaaGreatDoor.Tree

/-- The nodes up to k stand each behind its parent. -/
structure Up (l : List Nd) (k : Nat) : Prop where
  first : (nd l 0).par = -1
  par : ∀ i, 1 ≤ i → i ≤ k → 0 ≤ (nd l i).par ∧ (nd l i).par < i
theorem Up.depth_up {l : List Nd} {k : Nat} (h : Up l k) {i : Nat} (h1 : 1 ≤ i) (hi : i ≤ k) : depth l i = depth l (nd l i).par.toNat + 1 := by
  have hp := h.par i h1 hi
  unfold depth
  rw [row_eq, depthF, if_neg (by omega), tab_at _ _ _ (by omega)]
theorem Up.rep_up {l : List Nd} {k : Nat} (h : Up l k) {i : Nat} (h1 : 1 ≤ i) (hi : i ≤ k) : rep l i = rep1 (nd l i) + rep l (nd l i).par.toNat := by
  have hp := h.par i h1 hi
  unfold rep
  rw [row_eq, repF, if_neg (by omega), tab_at _ _ _ (by omega)]
theorem Up.dfn_up {l : List Nd} {k : Nat} (h : Up l k) {i : Nat} (h1 : 1 ≤ i) (hi : i ≤ k) : dfn l i = def1 (nd l i) + dfn l (nd l i).par.toNat := by
  have hp := h.par i h1 hi
  unfold dfn
  rw [row_eq, defF, if_neg (by omega), tab_at _ _ _ (by omega)]
theorem depth_first (l : List Nd) : depth l 0 = 0 := by
  unfold depth
  rw [row_eq, depthF, if_pos rfl]
theorem Up.depth_le {l : List Nd} {k : Nat} (h : Up l k) : ∀ i, i ≤ k → depth l i ≤ i := by
  intro i
  induction i using Nat.strongRecOn with
  | ind i ih =>
    intro hi
    by_cases e : i = 0
    · subst e; rw [depth_first]; omega
    · have hp := h.par i (by omega) hi
      rw [h.depth_up (by omega) hi]
      have := ih (nd l i).par.toNat (by omega) (by omega)
      omega
def nul1 (n : Nd) : Nat := if n.null then 1 else 0
theorem def1_eq (n : Nd) : def1 n = rep1 n + nul1 n := rfl
def sumR : List Nd → Nat
  | [] => 0
  | n :: l => rep1 n + sumR l
def sumN : List Nd → Nat
  | [] => 0
  | n :: l => nul1 n + sumN l
theorem sumR_app (a b : List Nd) : sumR (a ++ b) = sumR a + sumR b := by
  induction a with
  | nil => simp [sumR]
  | cons n a ih => simp [sumR, ih]; omega
theorem sumN_app (a b : List Nd) : sumN (a ++ b) = sumN a + sumN b := by
  induction a with
  | nil => simp [sumN]
  | cons n a ih => simp [sumN, ih]; omega
theorem sumR_one (n : Nd) : sumR [n] = rep1 n := rfl
theorem sumN_one (n : Nd) : sumN [n] = nul1 n := rfl
/-- What has been gathered on the way from a up, when z is asked next. -/
def WayInv (l : List Nd) (a : Nat) (p : List Nd) (z : Int) : Prop :=
  (z = -1 ∧ p.length = depth l a + 1 ∧ sumR p = rep l a ∧ sumR p + sumN p = dfn l a) ∨
  ∃ k : Nat, k ≤ a ∧ z = k ∧ p.length + depth l k = depth l a ∧ sumR p + rep l k = rep l a ∧ sumR p + sumN p + dfn l k = dfn l a
theorem WayInv.start (l : List Nd) (a : Nat) : WayInv l a [] a := .inr ⟨a, Nat.le_refl _, rfl, by simp, by simp [sumR], by simp [sumR, sumN]⟩
theorem WayInv.more {l : List Nd} {a k : Nat} {p : List Nd} (hu : Up l a) (h : WayInv l a p k) : k ≤ a ∧ p.length ≤ a ∧ WayInv l a (p ++ [nd l k]) (nd l k).par ∧ -1 ≤ (nd l k).par ∧ (nd l k).par < k := by
  rcases h with h | ⟨k', h1, h2, h3, h4, h5⟩
  · omega
  obtain rfl : k = k' := by omega
  have hd := hu.depth_le a (Nat.le_refl _)
  refine ⟨h1, by omega, ?_, ?_⟩
  · by_cases e : k = 0
    · subst e
      rw [depth_first] at h3
      rw [rep_first] at h4
      rw [dfn_first, def1_eq] at h5
      refine .inl ⟨hu.first, ?_, ?_, ?_⟩
      · rw [List.length_append]; simp; omega
      · rw [sumR_app, sumR_one]; omega
      · rw [sumR_app, sumN_app, sumR_one, sumN_one]; omega
    · have hp := hu.par k (by omega) h1
      rw [hu.depth_up (by omega) h1] at h3
      rw [hu.rep_up (by omega) h1] at h4
      rw [hu.dfn_up (by omega) h1, def1_eq] at h5
      refine .inr ⟨(nd l k).par.toNat, by omega, by omega, ?_, ?_, ?_⟩
      · rw [List.length_append]; simp; omega
      · rw [sumR_app, sumR_one]; omega
      · rw [sumR_app, sumN_app, sumR_one, sumN_one]; omega
  · by_cases e : k = 0
    · subst e; rw [hu.first]; omega
    · have hp := hu.par k (by omega) h1
      omega
theorem WayInv.done {l : List Nd} {a : Nat} {p : List Nd} {z : Int} (h : WayInv l a p z) (hz : z < 0) : p.length = depth l a + 1 ∧ sumR p = rep l a ∧ sumR p + sumN p = dfn l a := by
  rcases h with h | ⟨k', h1, h2, h3, h4, h5⟩
  · exact h.2
  · omega

/-- Does node i hang where it may? -/
def hangB (l : List Nd) (i : Nat) : Bool :=
  decide (0 ≤ (nd l i).kind ∧ (nd l i).kind ≤ 4) && (if i = 0 then decide ((nd l 0).par = -1) else decide (0 ≤ (nd l i).par ∧ (nd l i).par < i) && decide (depth l i + 1 ≤ 5))
def manyB (k : Int) (n : Nat) : Bool := if k = 3 then decide (n = 1) else if k = 4 then decide (1 ≤ n) else decide (n = 0)
def many (l : List Nd) (i : Nat) : Bool := manyB (nd l i).kind (kids l i).length
def allTo (f : Nat → Bool) : Nat → Bool
  | 0 => true
  | k + 1 => allTo f k && f k
theorem allTo_at {f : Nat → Bool} {k i : Nat} (h : allTo f k = true) (hi : i < k) : f i = true := by
  induction k with
  | zero => omega
  | succ k ih =>
    rw [allTo, Bool.and_eq_true] at h
    by_cases e : i = k
    · rw [e]; exact h.2
    · exact ih h.1 (by omega)
theorem allTo_of {f : Nat → Bool} {k : Nat} (h : ∀ i, i < k → f i = true) : allTo f k = true := by
  induction k with
  | zero => rfl
  | succ k ih => rw [allTo, ih (fun i hi => h i (by omega)), h k (by omega)]; rfl
theorem allTo_no {f : Nat → Bool} {k i : Nat} (hi : i < k) (h : f i = false) : allTo f k = false := by
  cases e : allTo f k
  · rfl
  · rw [allTo_at e hi] at h; cases h
theorem up_of_hang {l : List Nd} {k : Nat} (h1 : 1 ≤ k) (h : ∀ i, i < k → hangB l i = true) : Up l (k - 1) := by
  constructor
  · have := h 0 (by omega)
    unfold hangB at this
    rw [Bool.and_eq_true, if_pos rfl, decide_eq_true_eq, decide_eq_true_eq] at this
    exact this.2
  · intro i hi hk
    have := h i (by omega)
    unfold hangB at this
    rw [Bool.and_eq_true, if_neg (by omega), Bool.and_eq_true, decide_eq_true_eq, decide_eq_true_eq] at this
    exact this.2.1
/-- The way of asking that the program has. -/
def mayP (l : List Nd) : Bool := decide (1 ≤ l.length ∧ l.length ≤ 8) && (allTo (hangB l) l.length && allTo (many l) l.length)
theorem may_eq (l : List Nd) : mayP l = may l := by
  rw [Bool.eq_iff_iff]
  constructor
  · intro h
    unfold mayP at h
    rw [Bool.and_eq_true, Bool.and_eq_true, decide_eq_true_eq] at h
    obtain ⟨⟨h1, h8⟩, hh, hm⟩ := h
    have hu := up_of_hang h1 (fun i hi => allTo_at hh hi)
    unfold may headOk
    rw [Bool.and_eq_true, Bool.and_eq_true, decide_eq_true_eq, decide_eq_true_eq]
    refine ⟨⟨⟨h1, h8⟩, hu.first⟩, okTo_all _ _ fun i hi => ?_⟩
    have a := allTo_at hh hi
    have b := allTo_at hm hi
    unfold many manyB at b
    unfold hangB at a
    unfold okAt
    rw [Bool.and_eq_true] at a
    rw [Bool.and_eq_true, Bool.and_eq_true]
    refine ⟨⟨a.1, ?_⟩, ?_⟩
    · unfold isLeaf
      generalize (kids l i).length = n at *
      generalize (nd l i).kind = q at *
      simp only [Bool.not_eq_true', Bool.or_eq_false_iff, Bool.and_eq_false_iff, decide_eq_false_iff_not]
      split at b
      · rw [decide_eq_true_eq] at b
        refine ⟨⟨?_, ?_⟩, ?_⟩ <;> omega
      · split at b
        · rw [decide_eq_true_eq] at b
          refine ⟨⟨?_, ?_⟩, ?_⟩ <;> omega
        · rw [decide_eq_true_eq] at b
          refine ⟨⟨?_, ?_⟩, ?_⟩ <;> omega
    · by_cases e : i = 0
      · simp [e]
      · have c := a.2
        rw [if_neg e, Bool.and_eq_true, decide_eq_true_eq, decide_eq_true_eq, hu.depth_up (by omega) (by omega)] at c
        rw [Bool.or_eq_true, Bool.and_eq_true, decide_eq_true_eq, decide_eq_true_eq, decide_eq_true_eq]
        exact .inr ⟨c.1, by omega⟩
  · intro h
    have hm := may_of h
    unfold mayP
    rw [Bool.and_eq_true, Bool.and_eq_true, decide_eq_true_eq]
    refine ⟨⟨hm.one, hm.most⟩, allTo_of fun i hi => ?_, allTo_of fun i hi => ?_⟩
    · unfold hangB
      rw [Bool.and_eq_true, decide_eq_true_eq]
      refine ⟨hm.kind i hi, ?_⟩
      by_cases e : i = 0
      · rw [if_pos e, decide_eq_true_eq]; exact hm.first
      · rw [if_neg e, Bool.and_eq_true, decide_eq_true_eq, decide_eq_true_eq]
        have := hm.depth_le hi
        exact ⟨hm.par i (by omega) hi, by omega⟩
    · unfold many manyB
      split
      · rename_i c; rw [decide_eq_true_eq]; exact hm.list i hi c
      · split
        · rename_i c; rw [decide_eq_true_eq]; exact hm.struct i hi c
        · rename_i c d
          rw [decide_eq_true_eq, hm.leaf i hi (decide_eq_true ⟨c, d⟩)]
          rfl
end Go.Proofs.YtcpfhfdgfcilaaaGreatDoor.Tree
namespace Go.Proofs.YtcpfhfdgfcilaaaGreatDoor.Tree
open Go.ChangeShapes Go.WideShapes Go.ChangeAt Go.RowKit

/-- Nodes, as cells. -/
def cellsN (l : List Nd) : List Value := l.flatMap fun n => [.int .i64 n.kind, .int .i64 n.par, .bool n.null]
theorem cellsN_snoc (l : List Nd) (n : Nd) : cellsN (l ++ [n]) = cellsN l ++ [.int .i64 n.kind, .int .i64 n.par, .bool n.null] := by simp [cellsN]

set_option maxRecDepth 20000 in
set_option maxHeartbeats 800000 in
theorem wayC (x : Addr) (cap : Nat) (l : List Nd) (h8 : l.length ≤ 8) (a : Nat) (ha : a < l.length) (w : World) (hl : Lies w x l) (hu : Up l a) :
    Calls Tryz.prog 216 #[.agg #[.slice (some x) l.length cap], .int .i64 (a : Int)] w fun r w' => ∃ (p : List Nd) (o : Option Addr) (c : Nat), r = .returned (.slice o p.length c) ∧ w'.ownsRow w.heap.size 40 3 (.slice o p.length c) p.length (cellsN p) ∧ Below w.heap.size w w' ∧ p.length = depth l a + 1 ∧ sumR p = rep l a ∧ sumR p + sumN p = dfn l a := by
  obtain ⟨i46, hi, hz0, hz1, hz2⟩ := info_parts info46
  have HU : Hid (Up l a) := hu
  clear hu
  go_enter Tryz.func216, Tryz.ntmps216
  go_wp2_with fail
  obtain ⟨w1, e1, hs1, hc1, hb1⟩ := boxed w (.slice (some x) l.length cap) 24
  rw [e1]
  have hl1 := hl.later hb1
  clear e1 hl
  go_loopw [1, 5] (fun t v wr => ∃ (z : Int) (p : List Nd) (o : Option Addr) (c : Nat), t = .int .i64 z ∧ v = .slice o p.length c ∧ wr.ownsRow w1.heap.size 40 3 (.slice o p.length c) p.length (cellsN p) ∧ Below w1.heap.size w1 wr ∧ WayInv l a p z) (fun t _ _ => (intOf t + 1).toNat)
  case atStart =>
    exact ⟨a, [], none, 0, rfl, rfl, World.ownsRow_nil _ _ _ _, Below.refl _ _, WayInv.start l a⟩
  case round =>
    obtain ⟨z, p, o, c, rfl, rfl, hown, hbl, hinv⟩ := hrel
    have hc2 := cell_later hbl hc1
    have hl2 := hl1.later hbl
    by_cases hlt : 0 ≤ z
    · obtain ⟨k, rfl⟩ := Int.eq_ofNat_of_zero_le hlt
      obtain ⟨hka, hpl, hinv', hlo, hhi⟩ := hinv.more HU.out
      have HI : Hid (WayInv l a (p ++ [nd l k]) (nd l k).par) := hinv'
      have hp := hl2.par' k (by omega)
      have hq := hl2.kind' k (by omega)
      have hr := hl2.null' k (by omega)
      have hp0 := hl1.par' k (by omega)
      have hl3 : Hid (Lies w1 x l) := hl1
      generalize nd l k = n at *
      clear hl2 hl1 hinv hinv'
      go_wp2_with (at_builtin; refine wpList_append_own _ rfl (.tmp 14) (.tmp 20) 22 rfl w1.heap.size 40 i46 (.agg #[.int .i64 0, .int .i64 0, .bool false]) 3 24 Tryz.underlying22 hi hz0 hz1 hz2 rfl (by decide) _ p.length _ rfl (hown.alloc _) ⟨wr.heap.size, 0, none⟩ 1 1 [.int .i64 n.kind, .int .i64 n.par, .bool n.null] rfl rfl ?c1 ?c2 ?c3 ?c4 ?c5 ?_)
      case c1 =>
        intro j u hj
        match j, hj with
        | 0, hj => simp at hj; subst hj; simp [Addr.add]
        | 1, hj => simp at hj; subst hj; simp [Addr.add]
        | 2, hj => simp at hj; subst hj; simp [Addr.add]
      case c2 => intro u hu; simp at hu; rcases hu with rfl | rfl | rfl <;> rfl
      case c3 => unfold maxLen; omega
      case c4 => omega
      case c5 => have := hbl.size; simp; omega
      intro v' w3 hown' hgrow _
      have hb3 : Below w1.heap.size w1 w3 := (hbl.alloc hbl.size _).grown hgrow (by have := hbl.size; simp; omega) (fun j hj => (hown.lt j hj).1)
      have hown3 : w3.ownsRow w1.heap.size 40 3 v' (p ++ [n]).length (cellsN (p ++ [n])) := by
        rw [cellsN_snoc, List.length_append]
        exact hown'
      obtain ⟨o3, c3, rfl⟩ := own_slice hown3
      have hc3 := cell_later hb3 hc1
      have hp3 := cell_later hb3 hp0
      clear hown hgrow hbl hown' hp hq hr hp0 hc2
      generalize p ++ [n] = p3 at *
      go_wp2
      go_roundw
      case rel => exact ⟨n.par, p3, o3, c3, rfl, rfl, hown3, hb3, HI.out⟩
      case measure => simp [intOf]; omega
    · obtain ⟨h1, h2, h3⟩ := hinv.done (by omega)
      have H1 : Hid (p.length = depth l a + 1) := h1
      clear h1
      go_wp2
      go_ret
      exact ⟨p, o, c, rfl, own_mono hown (by omega), hb1.trans (hbl.mono (by omega)), H1.out, h2, h3⟩
theorem isKind (k : Int) (w : World) :
    Calls Tryz.prog 215 #[.int .i64 k] w fun r w' => r = .returned (.bool (decide (0 ≤ k ∧ k ≤ 4))) ∧ w' = w := by
  by_cases h : 0 ≤ k
  · go_enter Tryz.func215, Tryz.ntmps215
    go_wp2
    go_ret
    exact ⟨ret_bool (by simp [h]), rfl⟩
  · go_enter Tryz.func215, Tryz.ntmps215
    go_wp2
    go_ret
    exact ⟨ret_bool (by simp; omega), rfl⟩
theorem isMany (k : Int) (n : Nat) (w : World) :
    Calls Tryz.prog 186 #[.int .i64 k, .int .i64 (n : Int)] w fun r w' => r = .returned (.bool (manyB k n)) ∧ w' = w := by
  unfold manyB
  by_cases h : k = 3
  · rw [if_pos h]
    go_enter Tryz.func186, Tryz.ntmps186
    go_wp2
    go_ret
    exact ⟨ret_bool (by rw [Bool.eq_iff_iff]; simp; omega), rfl⟩
  · rw [if_neg h]
    by_cases h' : k = 4
    · rw [if_pos h']
      go_enter Tryz.func186, Tryz.ntmps186
      go_wp2
      go_ret
      exact ⟨ret_bool (by rw [Bool.eq_iff_iff]; simp; omega), rfl⟩
    · rw [if_neg h']
      go_enter Tryz.func186, Tryz.ntmps186
      go_wp2
      go_ret
      exact ⟨ret_bool (by rw [Bool.eq_iff_iff]; simp), rfl⟩
set_option maxRecDepth 20000 in
set_option maxHeartbeats 800000 in
theorem hangs (x : Addr) (cap : Nat) (l : List Nd) (h8 : l.length ≤ 8) (a : Nat) (ha : a < l.length) (w : World) (hl : Lies w x l) (hu : ∀ i, i < a → hangB l i = true) :
    Calls Tryz.prog 184 #[.agg #[.slice (some x) l.length cap], .int .i64 (a : Int)] w fun r w' => r = .returned (.bool (hangB l a)) ∧ Below w.heap.size w w' := by
  obtain ⟨w1, e1, hs1, hc1, hb1⟩ := boxed w (.slice (some x) l.length cap) 24
  have hp := (hl.later hb1).par' a ha
  have hq := (hl.later hb1).kind' a ha
  have hr := (hl.later hb1).null' a ha
  have HB1 : Hid (Below w.heap.size w w1) := hb1
  subst e1
  have HL : Hid (Lies w x l) := hl
  have HU : Hid (∀ i, i < a → hangB l i = true) := hu
  have HN : Hid (hangB l a = (decide (0 ≤ (nd l a).kind ∧ (nd l a).kind ≤ 4) && (if a = 0 then decide ((nd l a).par = -1) else decide (0 ≤ (nd l a).par ∧ (nd l a).par < a) && decide (depth l a + 1 ≤ 5)))) := by
    unfold Hid hangB
    by_cases e : a = 0
    · rw [e]
    · rw [if_neg e, if_neg e]
  have HC : Hid (a ≠ 0 → 0 ≤ (nd l a).par ∧ (nd l a).par < a → Up l a) := by
    intro e hc
    have := up_of_hang (l := l) (k := a) (by omega) HU.out
    refine ⟨this.first, fun i h1 h2 => ?_⟩
    by_cases e : i = a
    · rw [e]; exact hc
    · exact this.par i h1 (by omega)
  clear hl hu hb1 hs1 hc1
  generalize nd l a = n at *
  by_cases hk : 0 ≤ n.kind ∧ n.kind ≤ 4
  · have HK : Hid (decide (0 ≤ n.kind ∧ n.kind ≤ 4) = true) := decide_eq_true hk
    have H1 := HN.out
    rw [HK.out, Bool.true_and] at H1
    clear hk
    by_cases h0 : a = 0
    · rw [if_pos h0] at H1
      rw [H1]
      have H0 : Hid ((a : Int) = 0) := by unfold Hid; omega
      clear H1 HN h0
      go_enter Tryz.func184, Tryz.ntmps184
      go_wp2_with fail
      refine (isKind _ _).mono ?_
      rintro e w' ⟨rfl, rfl⟩
      rw [HK.out]
      have hz := H0.out
      go_wp2
      go_ret
      exact ⟨ret_bool (by rw [Bool.eq_iff_iff]; simp), bel HB1.out ((Below.refl _ _).alloc (Nat.le_refl _) _)⟩
    · rw [if_neg h0] at H1
      by_cases hc : 0 ≤ n.par
      · by_cases hd : n.par < a
        · have hup := HC.out h0 ⟨hc, hd⟩
          rw [decide_eq_true ⟨hc, hd⟩, Bool.true_and] at H1
          rw [H1]
          clear H1 HN
          have HUP : Hid (Up l a) := hup
          clear hup
          have hk0 : ¬ ((a : Int) = 0) := by omega
          go_enter Tryz.func184, Tryz.ntmps184
          go_wp2_with fail
          refine (isKind _ _).mono ?_
          rintro e w' ⟨rfl, rfl⟩
          rw [HK.out]
          go_wp2_with fail
          generalize e2 : (w.alloc (Obj.cells #[Value.slice (some x) l.length cap] 24)).alloc (Obj.cells #[Value.int IntKind.i64 n.kind, Value.int IntKind.i64 n.par, Value.bool n.null] 40) = w2
          have hb2 : Below w.heap.size w w2 := by
            rw [← e2]
            exact bel HB1.out ((Below.refl _ _).alloc (Nat.le_refl _) _)
          clear e2 hp hq hr
          refine (wayC x cap l h8 a ha w2 (HL.out.later hb2) HUP.out).mono ?_
          rintro e w3 ⟨p, o, c, rfl, hown, hb3, hlen, hsr, hsd⟩
          have HLEN : Hid (p.length = depth l a + 1) := hlen
          have HSR : Hid (sumR p = rep l a) := hsr
          have HSD : Hid (sumR p + sumN p = dfn l a) := hsd
          clear hlen hsr hsd
          go_wp2
          go_ret
          exact ⟨ret_bool (by rw [← HLEN.out, Bool.eq_iff_iff]; simp; omega), bel hb2 hb3⟩
        · rw [decide_eq_false (fun h => hd h.2), Bool.false_and] at H1
          rw [H1]
          clear H1 HN
          go_enter Tryz.func184, Tryz.ntmps184
          go_wp2_with fail
          refine (isKind _ _).mono ?_
          rintro e w' ⟨rfl, rfl⟩
          rw [HK.out]
          go_wp2
          go_ret
          exact ⟨rfl, bel HB1.out ((Below.refl _ _).alloc (Nat.le_refl _) _)⟩
      · rw [decide_eq_false (fun h => hc h.1), Bool.false_and] at H1
        rw [H1]
        clear H1 HN
        go_enter Tryz.func184, Tryz.ntmps184
        go_wp2_with fail
        refine (isKind _ _).mono ?_
        rintro e w' ⟨rfl, rfl⟩
        rw [HK.out]
        go_wp2
        go_ret
        exact ⟨rfl, bel HB1.out ((Below.refl _ _).alloc (Nat.le_refl _) _)⟩
  · have HK : Hid (decide (0 ≤ n.kind ∧ n.kind ≤ 4) = false) := decide_eq_false hk
    have H1 := HN.out
    rw [HK.out, Bool.false_and] at H1
    rw [H1]
    clear hk H1 HN
    go_enter Tryz.func184, Tryz.ntmps184
    go_wp2_with fail
    refine (isKind _ _).mono ?_
    rintro e w' ⟨rfl, rfl⟩
    rw [HK.out]
    go_wp2
    go_ret
    exact ⟨rfl, bel HB1.out ((Below.refl _ _).alloc (Nat.le_refl _) _)⟩
end Go.Proofs.YtcpfhfdgfcilaaaGreatDoor.Tree
namespace Go.Proofs.YtcpfhfdgfcilaaaGreatDoor.Tree
open Go.ChangeShapes Go.WideShapes Go.ChangeAt Go.RowKit

set_option maxRecDepth 20000 in
set_option maxHeartbeats 800000 in
theorem one (F : Nat) (hF : F = 183 ∨ F = 185) (b : Nat) (f : Nat → Bool) (x : Addr) (cap : Nat) (l : List Nd) (h8 : l.length ≤ 8) (w : World) (hl : Lies w x l)
    (hstep : Hid (∀ (k : Nat) (v : World), k < l.length → (∀ j, j < k → f j = true) → Below w.heap.size w v → Calls Tryz.prog F #[.int .i64 (k : Int), .agg #[.int .i64 (nd l k).kind, .int .i64 (nd l k).par, .bool (nd l k).null], .pointer (some ⟨b, 0, none⟩)] v fun r v' => r = .returned (.bool (f k)) ∧ Below v.heap.size v v')) :
    Calls Tryz.prog 182 #[.slice (some x) l.length cap, .func (.func F) #[] #[.pointer (some ⟨b, 0, none⟩)]] w fun r w' => r = .returned (.bool (allTo f l.length)) ∧ Below w.heap.size w w' := by
  rcases hF with rfl | rfl
  all_goals
    go_enter Tryz.func182, Tryz.ntmps182
    go_wp2_with fail
    go_loopw [9] (fun t wr => ∃ k : Nat, k ≤ l.length ∧ t = .int .i64 (k : Int) ∧ (∀ j, j < k → f j = true) ∧ Below w.heap.size w wr) (fun t _ => l.length - (intOf t).toNat)
    case atStart => exact ⟨0, Nat.zero_le _, rfl, fun j hj => by omega, Below.refl _ _⟩
    case round =>
      obtain ⟨k, hk, rfl, hall, hbl⟩ := hrel
      have HA : Hid (∀ j, j < k → f j = true) := hall
      clear hall
      have hl2 := hl.later hbl
      by_cases hlt : k < l.length
      · have hp := hl2.par' k hlt
        have hq := hl2.kind' k hlt
        have hr := hl2.null' k hlt
        have hst := hstep.out k
        have HS : Hid (∀ (v : World), k < l.length → (∀ j, j < k → f j = true) → Below w.heap.size w v → Calls Tryz.prog _ #[.int .i64 (k : Int), .agg #[.int .i64 (nd l k).kind, .int .i64 (nd l k).par, .bool (nd l k).null], .pointer (some ⟨b, 0, none⟩)] v fun r v' => r = .returned (.bool (f k)) ∧ Below v.heap.size v v') := hst
        have HL : Hid (Lies w x l) := hl
        clear hl2 hl hst hstep
        generalize nd l k = n at *
        go_wp2_with fail
        refine (HS.out _ hlt HA.out (hbl.alloc hbl.size _)).mono ?_
        rintro e w' ⟨rfl, hb'⟩
        cases hfk : f k
        · have HF : Hid (allTo f l.length = false) := allTo_no hlt hfk
          clear hfk
          go_wp2
          go_ret
          exact ⟨ret_bool HF.out.symm, (hbl.alloc hbl.size _).trans (hb'.mono (by have := hbl.size; simp; omega))⟩
        · have HF : Hid (f k = true) := hfk
          clear hfk
          go_wp2
          go_roundw
          case rel =>
            refine ⟨k + 1, by omega, by go_num, fun j hj => ?_, (hbl.alloc hbl.size _).trans (hb'.mono (by have := hbl.size; simp; omega))⟩
            by_cases e : j = k
            · rw [e]; exact HF.out
            · exact HA.out j (by omega)
          case measure => simp [intOf]; omega
      · obtain rfl : k = l.length := by omega
        have HF : Hid (allTo f l.length = true) := allTo_of HA.out
        go_wp2
        go_ret
        exact ⟨ret_bool HF.out.symm, hbl⟩
set_option maxRecDepth 20000 in
set_option maxHeartbeats 800000 in
theorem may1 (b : Nat) (x : Addr) (cap : Nat) (l : List Nd) (h8 : l.length ≤ 8) (n : Nd) (k : Nat) (w : World) (hl : Lies w x l) (hb : w.cell? ⟨b, 0, none⟩ = some (.slice (some x) l.length cap)) (hk : k < l.length) (hu : ∀ i, i < k → hangB l i = true) :
    Calls Tryz.prog 183 #[.int .i64 (k : Int), .agg #[.int .i64 n.kind, .int .i64 n.par, .bool n.null], .pointer (some ⟨b, 0, none⟩)] w fun r w' => r = .returned (.bool (hangB l k)) ∧ Below w.heap.size w w' := by
  have HU : Hid (∀ i, i < k → hangB l i = true) := hu
  clear hu
  have hb1 : Below w.heap.size w (w.alloc (Obj.cells #[.int .i64 n.kind, .int .i64 n.par, .bool n.null] 40)) := (Below.refl _ _).alloc (Nat.le_refl _) _
  have hc := cell_later hb1 hb
  go_enter Tryz.func183, Tryz.ntmps183
  go_wp2_with fail
  refine (hangs x cap l h8 k hk _ (hl.later hb1) HU.out).mono ?_
  rintro e w' ⟨rfl, hb2⟩
  go_wp2
  go_ret
  exact ⟨rfl, bel hb1 hb2⟩
set_option maxRecDepth 20000 in
set_option maxHeartbeats 800000 in
theorem may2 (b : Nat) (x : Addr) (cap : Nat) (l : List Nd) (h8 : l.length ≤ 8) (k : Nat) (w : World) (hl : Lies w x l) (hb : w.cell? ⟨b, 0, none⟩ = some (.slice (some x) l.length cap)) (h0 : (nd l 0).par = -1) :
    Calls Tryz.prog 185 #[.int .i64 (k : Int), .agg #[.int .i64 (nd l k).kind, .int .i64 (nd l k).par, .bool (nd l k).null], .pointer (some ⟨b, 0, none⟩)] w fun r w' => r = .returned (.bool (many l k)) ∧ Below w.heap.size w w' := by
  have H0 : Hid ((nd l 0).par = -1) := h0
  clear h0
  have HM : Hid (many l k = manyB (nd l k).kind (kids l k).length) := rfl
  generalize nd l k = n at *
  have hb1 : Below w.heap.size w (w.alloc (Obj.cells #[.int .i64 n.kind, .int .i64 n.par, .bool n.null] 40)) := (Below.refl _ _).alloc (Nat.le_refl _) _
  have hc := cell_later hb1 hb
  go_enter Tryz.func185, Tryz.ntmps185
  go_wp2_with fail
  have hb2 : Below w.heap.size w (w.alloc (Obj.cells #[.int .i64 n.kind, .int .i64 n.par, .bool n.null] 40)).drew := hb1.drew
  have hl2 : Lies (w.alloc (Obj.cells #[.int .i64 n.kind, .int .i64 n.par, .bool n.null] 40)).drew x l := hl.later hb2
  have hn2 : (w.alloc (Obj.cells #[.int .i64 n.kind, .int .i64 n.par, .bool n.null] 40)).drew.cell? ⟨w.heap.size, 0, none⟩ = some (.int .i64 n.kind) := by
    show (w.alloc _).cell? _ = _
    simp
  have HL2 : Hid _ := hl2
  have HB2 : Hid _ := hb2
  have HN2 : Hid _ := hn2
  clear hl2 hb2 hn2 hb1 hl hb
  go_region_with (first | (go_at_call 121; refine (kidsC x cap l h8 k _ HL2.out H0.out).mono ?_; rintro e w' ⟨o, c, rfl, hown, hb3⟩; have hn' := cell_later hb3 HN2.out; have HB3 : Hid _ := bel HB2.out hb3; clear hown hb3 hc) | (go_at_call 186; refine (isMany _ _ _).mono ?_; rintro e w' ⟨rfl, rfl⟩))
  all_goals
    go_wp2
    go_ret
    exact ⟨ret_bool HM.out.symm, HB3.out⟩
end Go.Proofs.YtcpfhfdgfcilaaaGreatDoor.Tree
namespace Go.Proofs.YtcpfhfdgfcilaaaGreatDoor.Tree
open Go.ChangeShapes Go.WideShapes Go.ChangeAt Go.RowKit

/-- A list of nodes that lies somewhere. -/
def IsT (w : World) (a : Option Addr) (l : List Nd) : Prop := l.length ≤ maxLen ∧ (l = [] ∨ ∃ x, a = some x ∧ Lies w x l)
theorem IsT.later {w wx : World} {a : Option Addr} {l : List Nd} (h : IsT w a l) (hb : Below w.heap.size w wx) : IsT wx a l :=
  ⟨h.1, h.2.imp id fun ⟨x, e, hl⟩ => ⟨x, e, hl.later hb⟩⟩
theorem IsT.some {w : World} {a : Option Addr} {l : List Nd} (h : IsT w a l) (h1 : 1 ≤ l.length) : ∃ x, a = some x ∧ Lies w x l := by
  rcases h.2 with rfl | h
  · simp at h1
  · exact h
def sizeB (l : List Nd) : Bool := decide (1 ≤ l.length ∧ l.length ≤ 8)
theorem hasSize (a : Option Addr) (cap : Nat) (l : List Nd) (w : World) (h : l.length ≤ maxLen) :
    Calls Tryz.prog 181 #[.agg #[.slice a l.length cap]] w fun r w' => r = .returned (.bool (sizeB l)) ∧ Below w.heap.size w w' := by
  unfold maxLen at h
  unfold sizeB
  by_cases h1 : 1 ≤ l.length
  · have h0 : 1 ≤ (l.length : Int) := by omega
    go_enter Tryz.func181, Tryz.ntmps181
    go_wp2
    go_ret
    exact ⟨ret_bool (by rw [Bool.eq_iff_iff]; simp; omega), (Below.refl _ _).alloc (Nat.le_refl _) _⟩
  · have h0 : ¬ (1 ≤ (l.length : Int)) := by omega
    go_enter Tryz.func181, Tryz.ntmps181
    go_wp2
    go_ret
    exact ⟨ret_bool (by rw [Bool.eq_iff_iff]), (Below.refl _ _).alloc (Nat.le_refl _) _⟩
theorem may_no_size {l : List Nd} (h : sizeB l = false) : may l = false := by
  rw [← may_eq]
  unfold mayP
  unfold sizeB at h
  rw [h]
  rfl
theorem may_size {l : List Nd} (h : sizeB l = true) : may l = (allTo (hangB l) l.length && allTo (many l) l.length) := by
  rw [← may_eq]
  unfold mayP
  unfold sizeB at h
  rw [h]
  rfl
set_option maxRecDepth 20000 in
set_option maxHeartbeats 1600000 in
theorem mayC (a : Option Addr) (cap : Nat) (l : List Nd) (w : World) (h : IsT w a l) :
    Calls Tryz.prog 152 #[.agg #[.slice a l.length cap]] w fun r w' => r = .returned (.bool (may l)) ∧ Below w.heap.size w w' := by
  have hlen := h.1
  cases hs : sizeB l
  · rw [may_no_size hs]
    have HS : Hid (sizeB l = false) := hs
    clear hs
    go_enter Tryz.func152, Tryz.ntmps152
    go_wp2_with fail
    refine (hasSize a cap l _ hlen).mono ?_
    rintro e w' ⟨rfl, hb⟩
    rw [HS.out]
    go_wp2
    go_ret
    exact ⟨rfl, bel ((Below.refl _ _).alloc (Nat.le_refl _) _) hb⟩
  · rw [may_size hs]
    have hsz := of_decide_eq_true hs
    obtain ⟨x, rfl, hl⟩ : ∃ x, a = some x ∧ Lies w x l := by
      rcases h.2 with rfl | h
      · simp at hsz
      · exact h
    obtain ⟨h1, h8⟩ := hsz
    have HS : Hid (sizeB l = true) := hs
    have HL : Hid (Lies w x l) := hl
    clear hs h hl
    cases hh : allTo (hangB l) l.length
    · rw [Bool.false_and]
      have HH : Hid (allTo (hangB l) l.length = false) := hh
      clear hh
      go_enter Tryz.func152, Tryz.ntmps152
      go_wp2_with fail
      obtain ⟨w1, e1, hs1, hc1, hb1⟩ := boxed w (.slice (some x) l.length cap) 24
      rw [e1]
      clear e1
      refine (hasSize _ cap l _ hlen).mono ?_
      rintro e w' ⟨rfl, hb⟩
      rw [HS.out]
      have hc2 := cell_later hb hc1
      go_wp2_with fail
      refine (one 183 (.inl rfl) w.heap.size (hangB l) x cap l h8 w' (HL.out.later (bel hb1 hb)) ?_).mono ?_
      · intro k v hk hu hbv
        exact may1 w.heap.size x cap l h8 (nd l k) k v (HL.out.later (bel (bel hb1 hb) hbv)) (cell_later hbv hc2) hk hu
      rintro e w2 ⟨rfl, hb2⟩
      rw [HH.out]
      go_wp2
      go_ret
      exact ⟨rfl, bel (bel hb1 hb) hb2⟩
    · rw [Bool.true_and]
      have h0 := (up_of_hang h1 (fun i hi => allTo_at hh hi)).first
      have HH : Hid (allTo (hangB l) l.length = true) := hh
      have H0 : Hid ((nd l 0).par = -1) := h0
      clear hh h0
      go_enter Tryz.func152, Tryz.ntmps152
      go_wp2_with fail
      obtain ⟨w1, e1, hs1, hc1, hb1⟩ := boxed w (.slice (some x) l.length cap) 24
      rw [e1]
      clear e1
      refine (hasSize _ cap l _ hlen).mono ?_
      rintro e w' ⟨rfl, hb⟩
      rw [HS.out]
      have hc2 := cell_later hb hc1
      go_wp2_with fail
      refine (one 183 (.inl rfl) w.heap.size (hangB l) x cap l h8 w' (HL.out.later (bel hb1 hb)) ?_).mono ?_
      · intro k v hk hu hbv
        exact may1 w.heap.size x cap l h8 (nd l k) k v (HL.out.later (bel (bel hb1 hb) hbv)) (cell_later hbv hc2) hk hu
      rintro e w2 ⟨rfl, hb2⟩
      rw [HH.out]
      have hc3 := cell_later hb2 hc2
      go_wp2_with fail
      refine (one 185 (.inr rfl) w.heap.size (many l) x cap l h8 w2 (HL.out.later (bel (bel hb1 hb) hb2)) ?_).mono ?_
      · intro k v _ _ hbv
        exact may2 w.heap.size x cap l h8 k v (HL.out.later (bel (bel (bel hb1 hb) hb2) hbv)) (cell_later hbv hc3) H0.out
      rintro e w3 ⟨rfl, hb3⟩
      go_wp2
      go_ret
      exact ⟨rfl, bel (bel (bel hb1 hb) hb2) hb3⟩
end Go.Proofs.YtcpfhfdgfcilaaaGreatDoor.Tree
