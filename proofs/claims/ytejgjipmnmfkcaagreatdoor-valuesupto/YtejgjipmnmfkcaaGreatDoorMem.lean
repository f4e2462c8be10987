/-
  Rows of ints and of nodes that a call made; the kids of a node: contracts.
-/
import Derived.Test.YtejgjipmnmfkcaaGreatDoorRows
import Derived.Test.YtejgjipmnmfkcaaGreatDoorTree
import Derived.Test.YtejgjipmnmfkcaaGreatDoorOpen
import Derived.WalkKit
import Derived.ProofKit
import Derived.OpenShut
import Derived.Below
import Derived.RegionTactic
import Derived.ChangeAlike
import Derived.OwnWalk
namespace Go.Proofs.YtejgjipmnmfkcaaGreatDoor.Tree
open Go.ChangeShapes Go.WideShapes Go.ChangeAt Go.RowKit

theorem bel {a b c : World} (h : Below a.heap.size a b) (k : Below b.heap.size b c) : Below a.heap.size a c := h.trans (k.mono h.size)
theorem ret_bool {a b : Bool} (h : a = b) : Ending.returned (.bool a) = .returned (.bool b) := by rw [h]
theorem info3 : (Tryz.prog.info? 3).map (fun i => (i.zero, i.size, i.bytes)) = some (some (.int .i64 0), 1, 8) := by kernel_rfl
theorem info46 : (Tryz.prog.info? 59).map (fun i => (i.zero, i.size, i.bytes)) = some (some (.agg #[.int .i64 0, .int .i64 0, .bool false]), 3, 24) := by kernel_rfl
/-- Ints, as cells. -/
def ints (l : List Nat) : List Value := l.map fun b => .int .i64 ((b : Nat) : Int)
theorem ints_snoc (l : List Nat) (b : Nat) : ints (l ++ [b]) = ints l ++ [.int .i64 ((b : Nat) : Int)] := by simp [ints]
theorem cell_later {w wx : World} {a : Addr} {v : Value} (hb : Below w.heap.size w wx) (h : w.cell? a = some v) : wx.cell? a = some v := (hb.cell (World.block_lt_of_cell? _ _ h)).trans h
theorem Lies.later {w wx : World} {x : Addr} {l : List Nd} (h : Lies w x l) (hb : Below w.heap.size w wx) : Lies wx x l :=
  ⟨fun i hi => cell_later hb (h.kind i hi), fun i hi => cell_later hb (h.par i hi), fun i hi => cell_later hb (h.null i hi)⟩

theorem own_mono {w : World} {b b' n : Nat} {e : TypeId} {k : Nat} {v : Value} {xs : List Value} (h : w.ownsRow b e k v n xs) (hb : b' ≤ b) : w.ownsRow b' e k v n xs := by
  refine ⟨h.1, ?_⟩
  rcases h.2 with h | ⟨g, cap, cur, h0, h1, h2⟩
  · exact .inl h
  · exact .inr ⟨g, cap, cur, h0, by omega, h2⟩
/-- The box of a type that was handed in. -/
theorem boxed (w : World) (v : Value) (t : TypeId) : ∃ w1, w.alloc (.cells #[v] t) = w1 ∧ w.heap.size < w1.heap.size ∧ w1.cell? ⟨w.heap.size, 0, none⟩ = some v ∧ Below w.heap.size w w1 :=
  ⟨_, rfl, by simp, by simp, (Below.refl _ _).alloc (Nat.le_refl _) _⟩

theorem own_slice {w : World} {b n : Nat} {e : TypeId} {k : Nat} {v : Value} {xs : List Value} (h : w.ownsRow b e k v n xs) : ∃ o c, v = .slice o n c := by
  rcases h.2 with ⟨h, h'⟩ | ⟨g, cap, cur, h0, h1, h2⟩
  · exact ⟨none, 0, by rw [h, h']⟩
  · exact ⟨_, _, h0⟩
theorem add_at {x : Addr} {w : World} {v : Value} (i j : Nat) (h : w.cell? (x.add (i + j)) = some v) : w.cell? { block := (x.add i).block, off := (x.add i).off + j } = some v := by
  have h1 : (x.add i).block = x.block := by unfold Addr.add; split <;> rfl
  have h2 : (x.add i).off = x.off + i := by unfold Addr.add; split <;> simp_all
  have h3 : (x.add (i + j)).block = x.block := by unfold Addr.add; split <;> rfl
  have h4 : (x.add (i + j)).off = x.off + (i + j) := by unfold Addr.add; split <;> simp_all
  rw [h1, h2, Nat.add_assoc]
  unfold World.cell? at h ⊢
  rw [h3, h4] at h
  split at h
  · split at h
    · cases h
    · simp_all
  · cases h
theorem Lies.kind' {w : World} {x : Addr} {l : List Nd} (h : Lies w x l) (i : Nat) (hi : i < l.length) : w.cell? (x.add (i * 3)) = some (.int .i64 (nd l i).kind) := h.kind i hi
theorem Lies.par' {w : World} {x : Addr} {l : List Nd} (h : Lies w x l) (i : Nat) (hi : i < l.length) : w.cell? { block := (x.add (i * 3)).block, off := (x.add (i * 3)).off + 1 } = some (.int .i64 (nd l i).par) :=
  add_at (i * 3) 1 (h.par i hi)
theorem Lies.null' {w : World} {x : Addr} {l : List Nd} (h : Lies w x l) (i : Nat) (hi : i < l.length) : w.cell? { block := (x.add (i * 3)).block, off := (x.add (i * 3)).off + 2 } = some (.bool (nd l i).null) :=
  add_at (i * 3) 2 (h.null i hi)
theorem kidsTo_one (l : List Nd) (a : Int) : kidsTo l a 1 = [] := by simp [kidsTo]
set_option maxRecDepth 20000 in
set_option maxHeartbeats 800000 in
theorem kidsC (x : Addr) (cap : Nat) (l : List Nd) (h8 : l.length ≤ 8) (a : Nat) (w : World) (hl : Lies w x l) (h0 : (nd l 0).par = -1) :
    Calls Tryz.prog 59 #[.agg #[.slice (some x) l.length cap], .int .i64 (a : Int)] w fun r w' => ∃ o c, r = .returned (.slice o (kids l a).length c) ∧ w'.ownsRow w.heap.size 3 1 (.slice o (kids l a).length c) (kids l a).length (ints (kids l a)) ∧ Below w.heap.size w w' := by
  obtain ⟨i3, hi, hz0, hz1, hz2⟩ := info_parts info3
  have H0 : Hid ((nd l 0).par = -1) := h0
  clear h0
  go_enter Tryz.func59, Tryz.ntmps59
  go_wp2_with fail
  obtain ⟨w1, e1, hs1, hc1, hb1⟩ := boxed w (.slice (some x) l.length cap) 25
  rw [e1]
  have hl1 := hl.later hb1
  clear e1 hl
  go_loopw [5, 11] (fun v t wr => ∃ (k : Nat) (o : Option Addr) (c : Nat), t = .int .i64 (k : Int) ∧ k ≤ l.length ∧ v = .slice o (kidsTo l a k).length c ∧ wr.ownsRow w1.heap.size 3 1 (.slice o (kidsTo l a k).length c) (kidsTo l a k).length (ints (kidsTo l a k)) ∧ Below w1.heap.size w1 wr) (fun _ t _ => l.length - (intOf t).toNat)
  case atStart =>
    refine ⟨0, none, 0, rfl, Nat.zero_le _, rfl, World.ownsRow_nil _ _ _ _, Below.refl _ _⟩
  case round =>
    obtain ⟨k, o, c, rfl, hk, rfl, hown, hbl⟩ := hrel
    have hc2 := cell_later hbl hc1
    have hl2 := hl1.later hbl
    have hkl := length_kidsTo l a k
    by_cases hlt : k < l.length
    · have hp := hl2.par' k (by omega)
      have hq := hl2.kind' k (by omega)
      have hr := hl2.null' k (by omega)
      have HK : Hid (kidsTo l a (k + 1) = if 1 ≤ k ∧ (nd l k).par = a then kidsTo l a k ++ [k] else kidsTo l a k) := rfl
      have HZ : Hid (k = 0 → (nd l k).par = -1) := fun e => by rw [e]; exact H0.out
      have hl3 : Hid (Lies w1 x l) := hl1
      generalize nd l k = n at *
      clear hl2 hl1
      by_cases he : n.par = a
      · have hk1 : 1 ≤ k := by
          by_cases e : k = 0
          · have := HZ.out e
            omega
          · omega
        have HN : Hid (kidsTo l a (k + 1) = kidsTo l a k ++ [k]) := by unfold Hid; rw [HK.out, if_pos ⟨hk1, he⟩]
        clear HK HZ
        generalize kidsTo l a k = p at *
        go_wp2_with (at_builtin; refine wpList_append_own _ rfl (.tmp 20) (.tmp 22) 60 rfl w1.heap.size 3 i3 (.int .i64 0) 1 8 Tryz.underlying60 hi hz0 hz1 hz2 rfl (by decide) _ p.length _ rfl ((hown.alloc _).alloc _) ⟨wr.heap.size + 1, 0, none⟩ 1 1 [.int .i64 (k : Int)] rfl rfl ?c1 ?c2 ?c3 ?c4 ?c5 ?_)
        case c1 =>
          intro j u hj
          match j, hj with
          | 0, hj => simp at hj; subst hj; simp [Addr.add]
        case c2 => intro u hu; simp at hu; subst hu; rfl
        case c3 => unfold maxLen; omega
        case c4 => omega
        case c5 => have := hbl.size; simp; omega
        intro v' w3 hown' hgrow _
        have hb3 : Below w1.heap.size w1 w3 := ((hbl.alloc hbl.size _).alloc (by have := hbl.size; simp; omega) _).grown hgrow (by have := hbl.size; simp; omega) (fun j hj => (hown.lt j hj).1)
        have hown3 : w3.ownsRow w1.heap.size 3 1 v' (p ++ [k]).length (ints (p ++ [k])) := by
          rw [ints_snoc, List.length_append]
          exact hown'
        obtain ⟨o3, c3, rfl⟩ := own_slice hown3
        clear hown hgrow hbl hown'
        go_wp2
        go_roundw
        case rel => exact ⟨k + 1, o3, c3, by go_num, by omega, by rw [HN.out], by rw [HN.out]; exact hown3, hb3⟩
        case measure => simp [intOf]; omega
      · have HN : Hid (kidsTo l a (k + 1) = kidsTo l a k) := by unfold Hid; rw [HK.out, if_neg (fun h => he h.2)]
        clear HK HZ
        go_wp2
        go_roundw
        case rel => exact ⟨k + 1, o, c, by go_num, by omega, by rw [HN.out], by rw [HN.out]; exact hown.alloc _, hbl.alloc hbl.size _⟩
        case measure => simp [intOf]; omega
    · obtain rfl : k = l.length := by omega
      go_wp2
      go_ret
      exact ⟨o, c, rfl, own_mono hown (by omega), hb1.trans (hbl.mono (by omega))⟩
end Go.Proofs.YtejgjipmnmfkcaaGreatDoor.Tree
