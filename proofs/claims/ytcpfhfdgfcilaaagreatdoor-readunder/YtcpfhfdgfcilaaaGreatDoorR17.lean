/-
  Several texts in one: A value's kind and parts, as the document's own answer tells them: contracts. · Whether a value may be of a node of a type, as the document's own answer tells it: contracts. · What a reader has of a place: short, span: contracts.
-/
import Derived.Test.YtcpfhfdgfcilaaaGreatDoorR03
import Derived.Test.YtcpfhfdgfcilaaaGreatDoorR13
import Derived.Test.YtcpfhfdgfcilaaaGreatDoorR16
import Derived.Deep.CutBlock
import Derived.Test.YtcpfhfdgfcilaaaGreatDoorR01
import Derived.Test.YtcpfhfdgfcilaaaGreatDoorR02
import Derived.Test.YtcpfhfdgfcilaaaGreatDoorR09
import Derived.Test.YtcpfhfdgfcilaaaGreatDoorR12
import Derived.Deep.RegionWith
import Derived.Test.YtcpfhfdgfcilaaaGreatDoorR05
import Derived.Deep.QuietTactic
import Derived.BigQuiet
namespace Go.Proofs.YtcpfhfdgfcilaaaGreatDoor.Val
open Go.ChangeShapes Go.WideShapes Go.ChangeAt Go.RowKit
open Tree (own_slice own_mono)
open Texts (cellsT cellsT_snoc)

end Go.Proofs.YtcpfhfdgfcilaaaGreatDoor.Val
namespace Go.Proofs.YtcpfhfdgfcilaaaGreatDoor.Val
open Go.ChangeShapes Go.WideShapes Go.ChangeAt Go.RowKit
open Tree
open Texts
theorem kids_lt {ns : List Nd} (a : Nat) : ∀ j, j < (kids ns a).length → (kids ns a).getD j 0 < ns.length := by
  have key : ∀ k, ∀ u ∈ kidsTo ns a k, u < k := by
    intro k
    induction k with
    | zero => intro u hu; cases hu
    | succ k ih =>
      intro u hu
      rw [kidsTo] at hu
      split at hu
      · rcases List.mem_append.1 hu with c | c
        · have := ih u c; omega
        · rw [List.mem_singleton] at c; omega
      · have := ih u hu; omega
  intro j hj
  refine key ns.length _ ?_
  rw [List.getD_eq_getElem?_getD, List.getElem?_eq_getElem hj]
  exact List.getElem_mem hj

theorem add_zero {x : Addr} {w : World} {v : Value} (h : w.cell? (x.add 0) = some v) : w.cell? x = some v := by
  rw [show x.add 0 = x from by unfold Addr.add; split <;> simp_all] at h
  exact h
end Go.Proofs.YtcpfhfdgfcilaaaGreatDoor.Val
namespace Go.Proofs.YtcpfhfdgfcilaaaGreatDoor.Arr
open Go.ChangeShapes Go.WideShapes Go.ChangeAt Go.RowKit
open Tree Val

theorem rshort (s : ByteArray) (i : Nat) (hs : s.size ≤ 4096) (h : has4 s i = true) (hi : i ≤ 4096) (w : World) :
    Calls Tryz.prog 79 #[.string s, .int .i64 (i : Int)] w fun r w' => r = .returned (.int .i64 ((endAt s i : Nat) : Int)) ∧ w' = w := by
  have HH : Hid (has4 s i = true) := h
  clear h
  go_enter Tryz.func79, Tryz.ntmps79
  go_wp2_with fail
  refine (short_yes s i hs HH.out hi w).mono ?_
  rintro e w' ⟨rfl, rfl⟩
  go_wp2
  go_ret
  exact ⟨rfl, rfl⟩
/-- A reader as an argument. -/
def rdVal (a : Arr) (o : Option Addr) (cap : Nat) (k : Int) (r : Option Addr) (n c : Nat) : Value := .agg #[.int .i64 a.layout, .int .i64 a.offset, .int .i64 a.length, .string a.valid, .string a.ends, .string a.data, .slice o a.kids.length cap, .int .i64 k, .slice r n c]
/-- A reader in a box. -/
structure Rx (w : World) (g : Nat) (a : Arr) (o : Option Addr) (cap : Nat) (k : Int) (r : Option Addr) (n c : Nat) : Prop where
  blk : w.heap[g]? = some (.cells #[.int .i64 a.layout, .int .i64 a.offset, .int .i64 a.length, .string a.valid, .string a.ends, .string a.data, .slice o a.kids.length cap, .int .i64 k, .slice r n c] 71)
theorem Rx.lt {w : World} {g : Nat} {a : Arr} {o : Option Addr} {cap : Nat} {k : Int} {r : Option Addr} {n c : Nat} (h : Rx w g a o cap k r n c) : g < w.heap.size := (Array.getElem?_eq_some_iff.1 h.blk).1
theorem Rx.c0 {w : World} {g : Nat} {a : Arr} {o : Option Addr} {cap : Nat} {k : Int} {r : Option Addr} {n c : Nat} (h : Rx w g a o cap k r n c) : w.cell? ⟨g, 0, none⟩ = some (.int .i64 a.layout) := by simp [World.cell?, h.blk]
theorem Rx.c1 {w : World} {g : Nat} {a : Arr} {o : Option Addr} {cap : Nat} {k : Int} {r : Option Addr} {n c : Nat} (h : Rx w g a o cap k r n c) : w.cell? ⟨g, 1, none⟩ = some (.int .i64 a.offset) := by simp [World.cell?, h.blk]
theorem Rx.c2 {w : World} {g : Nat} {a : Arr} {o : Option Addr} {cap : Nat} {k : Int} {r : Option Addr} {n c : Nat} (h : Rx w g a o cap k r n c) : w.cell? ⟨g, 2, none⟩ = some (.int .i64 a.length) := by simp [World.cell?, h.blk]
theorem Rx.c3 {w : World} {g : Nat} {a : Arr} {o : Option Addr} {cap : Nat} {k : Int} {r : Option Addr} {n c : Nat} (h : Rx w g a o cap k r n c) : w.cell? ⟨g, 3, none⟩ = some (.string a.valid) := by simp [World.cell?, h.blk]
theorem Rx.c4 {w : World} {g : Nat} {a : Arr} {o : Option Addr} {cap : Nat} {k : Int} {r : Option Addr} {n c : Nat} (h : Rx w g a o cap k r n c) : w.cell? ⟨g, 4, none⟩ = some (.string a.ends) := by simp [World.cell?, h.blk]
theorem Rx.c5 {w : World} {g : Nat} {a : Arr} {o : Option Addr} {cap : Nat} {k : Int} {r : Option Addr} {n c : Nat} (h : Rx w g a o cap k r n c) : w.cell? ⟨g, 5, none⟩ = some (.string a.data) := by simp [World.cell?, h.blk]
theorem Rx.c6 {w : World} {g : Nat} {a : Arr} {o : Option Addr} {cap : Nat} {k : Int} {r : Option Addr} {n c : Nat} (h : Rx w g a o cap k r n c) : w.cell? ⟨g, 6, none⟩ = some (.slice o a.kids.length cap) := by simp [World.cell?, h.blk]
theorem Rx.c7 {w : World} {g : Nat} {a : Arr} {o : Option Addr} {cap : Nat} {k : Int} {r : Option Addr} {n c : Nat} (h : Rx w g a o cap k r n c) : w.cell? ⟨g, 7, none⟩ = some (.int .i64 k) := by simp [World.cell?, h.blk]
theorem Rx.c8 {w : World} {g : Nat} {a : Arr} {o : Option Addr} {cap : Nat} {k : Int} {r : Option Addr} {n c : Nat} (h : Rx w g a o cap k r n c) : w.cell? ⟨g, 8, none⟩ = some (.slice r n c) := by simp [World.cell?, h.blk]
theorem Rx.fz {w : World} {g : Nat} {a : Arr} {o : Option Addr} {cap : Nat} {k : Int} {r : Option Addr} {n c : Nat} (h : Rx w g a o cap k r n c) (j : Nat) : w.frozen? ⟨g, j, none⟩ = false := by simp [World.frozen?, h.blk]
theorem Rx.later {w : World} {g : Nat} {a : Arr} {o : Option Addr} {cap : Nat} {k : Int} {r : Option Addr} {n c : Nat} (h : Rx w g a o cap k r n c) {w' : World} (hb : Below w.heap.size w w') : Rx w' g a o cap k r n c := ⟨(hb.block g h.lt).trans h.blk⟩
theorem box9 (w : World) (a : Arr) (o : Option Addr) (cap : Nat) (k : Int) (r : Option Addr) (n c : Nat) : ∃ w1, w.alloc (.cells #[.int .i64 a.layout, .int .i64 a.offset, .int .i64 a.length, .string a.valid, .string a.ends, .string a.data, .slice o a.kids.length cap, .int .i64 k, .slice r n c] 71) = w1 ∧ Rx w1 w.heap.size a o cap k r n c ∧ Below w.heap.size w w1 ∧ w.heap.size < w1.heap.size :=
  ⟨_, rfl, ⟨heap_alloc_new _ _⟩, (Below.refl _ _).alloc (Nat.le_refl _) _, by simp⟩
set_option maxRecDepth 20000 in
set_option maxHeartbeats 1600000 in
theorem rspan (a : Arr) (o : Option Addr) (cap : Nat) (k : Int) (r : Option Addr) (n c : Nat) (p : Nat) (hs : a.ends.size ≤ 4096) (hp : p ≤ 64) (h1 : has4 a.ends p = true) (h2 : has4 a.ends (p + 1) = true) (w : World) :
    Calls Tryz.prog 144 #[rdVal a o cap k r n c, .int .i64 (p : Int)] w fun e w' => e = .returned (.tuple #[.int .i64 ((endAt a.ends p : Nat) : Int), .int .i64 ((endAt a.ends (p + 1) : Nat) : Int)]) ∧ Below w.heap.size w w' := by
  obtain ⟨w1, e1, x1, b1, s1⟩ := box9 w a o cap k r n c
  have B1 : Hid (Below w.heap.size w w1) := b1
  have HS1 : ∀ v, Calls Tryz.prog 79 #[.string a.ends, .int .i64 (p : Int)] v fun r w' => r = .returned (.int .i64 ((endAt a.ends p : Nat) : Int)) ∧ w' = v := fun v => rshort a.ends p hs h1 (by omega) v
  have HS2 : ∀ v, Calls Tryz.prog 79 #[.string a.ends, .int .i64 ((p : Int) + 1)] v fun r w' => r = .returned (.int .i64 ((endAt a.ends (p + 1) : Nat) : Int)) ∧ w' = v := fun v => rshort a.ends (p + 1) hs h2 (by omega) v
  have hq : IntKind.i64.wrap ((p : Int) + 1) = (p : Int) + 1 := by rw [IntKind.wrap_i64]; omega
  have d4 := x1.c4
  generalize endAt a.ends p = E1 at *
  generalize endAt a.ends (p + 1) = E2 at *
  unfold rdVal
  clear b1 s1 h1 h2
  go_enter Tryz.func144, Tryz.ntmps144
  go_wp2_with fail
  have KR : Hid (w1.drew.cell? ⟨w.heap.size, 4, none⟩ = some (.string a.ends)) := d4
  refine wp_region_noPanic ?_
  refine wp_region_held_drew (S := fun W : World => W.cell? ⟨w.heap.size, 4, none⟩ = some (.string a.ends)) (by kernel_rfl) KR.out (fun h0 => ?_)
  have BD : Hid (Below w.heap.size w w1.drew) := bel2 B1.out (drewN_below _ _)
  generalize w1.drew = wd at *
  refine take_at (i := 0) (d := some 6) (v := ?v0a) rfl rfl (by kernel_rfl) (by kernel_rfl) (by kernel_rfl) (fun _ _ _ h => h) (Or.inl ⟨by rfl, ?y0a⟩) h0 ?r0a
  case y0a => (intro w' hSw; (try dsimp only at hSw); go_simp; try with_reducible rfl)
  try simp only [Act.put, List.setIfInBounds_toArray, List.set_cons_zero, List.set_cons_succ]
  refine take_at (i := 1) (d := some 7) (v := ?v1a) rfl rfl (by kernel_rfl) (by kernel_rfl) (by kernel_rfl) (fun _ _ _ h => h) (Or.inl ⟨by rfl, ?y1a⟩) h0 ?r1a
  case y1a => (intro w' hSw; (try dsimp only at hSw); go_simp; try with_reducible rfl)
  try simp only [Act.put, List.setIfInBounds_toArray, List.set_cons_zero, List.set_cons_succ]
  refine take_at (i := 2) (d := some 8) (v := ?v2a) rfl rfl (by kernel_rfl) (by kernel_rfl) (by kernel_rfl) (fun _ _ _ h => h) (Or.inl ⟨by rfl, ?y2a⟩) h0 ?r2a
  case y2a => (intro w' hSw; (try dsimp only at hSw); go_simp; try with_reducible rfl)
  try simp only [Act.put, List.setIfInBounds_toArray, List.set_cons_zero, List.set_cons_succ]
  refine take_at (i := 3) (d := some 9) (v := ?v3a) rfl rfl (by kernel_rfl) (by kernel_rfl) (by kernel_rfl) (fun _ _ _ h => h) (Or.inl ⟨by rfl, ?y3a⟩) h0 ?r3a
  case y3a => (intro w' hSw; (try dsimp only at hSw); go_simp; try with_reducible rfl)
  try simp only [Act.put, List.setIfInBounds_toArray, List.set_cons_zero, List.set_cons_succ]
  refine take_at (i := 5) (d := some 11) (v := ?v5a) rfl rfl (by kernel_rfl) (by kernel_rfl) (by kernel_rfl) (fun _ _ _ h => h) (Or.inl ⟨by rfl, ?y5a⟩) h0 ?r5a
  case y5a => (intro w' hSw; (try dsimp only at hSw); go_simp; try with_reducible rfl)
  try simp only [Act.put, List.setIfInBounds_toArray, List.set_cons_zero, List.set_cons_succ]
  refine take_at (i := 6) (d := some 12) (v := ?v6a) rfl rfl (by kernel_rfl) (by kernel_rfl) (by kernel_rfl) (fun _ _ _ h => h) (Or.inl ⟨by rfl, ?y6a⟩) h0 ?r6a
  case y6a => (intro w' hSw; (try dsimp only at hSw); go_simp; try with_reducible rfl)
  try simp only [Act.put, List.setIfInBounds_toArray, List.set_cons_zero, List.set_cons_succ]
  refine take_at (i := 7) (d := some 13) (v := ?v7a) rfl rfl (by kernel_rfl) (by kernel_rfl) (by kernel_rfl) (fun _ _ _ h => h) (Or.inl ⟨by rfl, ?y7a⟩) h0 ?r7a
  case y7a => (intro w' hSw; (try dsimp only at hSw); go_simp; try with_reducible rfl)
  try simp only [Act.put, List.setIfInBounds_toArray, List.set_cons_zero, List.set_cons_succ]
  refine take_at (i := 8) (d := some 14) (v := ?v8a) rfl rfl (by kernel_rfl) (by kernel_rfl) (by kernel_rfl) (fun _ _ _ h => h) (Or.inl ⟨by rfl, ?y8a⟩) h0 ?r8a
  case y8a => (intro w' hSw; (try dsimp only at hSw); go_simp; try with_reducible rfl)
  try simp only [Act.put, List.setIfInBounds_toArray, List.set_cons_zero, List.set_cons_succ]
  refine take_at (i := 9) (d := some 15) (v := ?v9a) rfl rfl (by kernel_rfl) (by kernel_rfl) (by kernel_rfl) (fun _ _ _ h => h) (Or.inl ⟨by rfl, ?y9a⟩) h0 ?r9a
  case y9a => (intro w' hSw; (try dsimp only at hSw); go_simp; try with_reducible rfl)
  try simp only [Act.put, List.setIfInBounds_toArray, List.set_cons_zero, List.set_cons_succ]
  refine wpAnyH_ready (rs := [4]) (by kernel_rfl) (by simp) ?_
  refine AllReadyH.cons rfl (fun K hK => ?_) AllReadyH.nil
  go_simp
  go_at_call 79
  refine (HS1 _).mono ?_
  rintro e wx ⟨rfl, rfl⟩
  refine hK.out _ _ KR.out (fun h1 => ?_)
  clear hK K
  try simp only [Act.put, List.setIfInBounds_toArray, List.set_cons_zero, List.set_cons_succ]
  refine wpAnyH_ready (rs := [10]) (by kernel_rfl) (by simp) ?_
  refine AllReadyH.cons rfl (fun K hK => ?_) AllReadyH.nil
  go_simp
  go_at_call 79
  refine (HS2 _).mono ?_
  rintro e wx ⟨rfl, rfl⟩
  refine hK.out _ _ KR.out (fun h2 => ?_)
  clear hK K
  try simp only [Act.put, List.setIfInBounds_toArray, List.set_cons_zero, List.set_cons_succ]
  refine take_at (i := 11) (d := some 4) (v := ?v11b) rfl rfl (by kernel_rfl) (by kernel_rfl) (by kernel_rfl) (fun _ _ _ h => h) (Or.inl ⟨by rfl, ?y11b⟩) h2 ?r11b
  case y11b => (intro w' hSw; (try dsimp only at hSw); go_simp; try with_reducible rfl)
  try simp only [Act.put, List.setIfInBounds_toArray, List.set_cons_zero, List.set_cons_succ]
  refine take_at (i := 12) (d := some 5) (v := ?v12b) rfl rfl (by kernel_rfl) (by kernel_rfl) (by kernel_rfl) (fun _ _ _ h => h) (Or.inl ⟨by rfl, ?y12b⟩) h2 ?r12b
  case y12b => (intro w' hSw; (try dsimp only at hSw); go_simp; try with_reducible rfl)
  try simp only [Act.put, List.setIfInBounds_toArray, List.set_cons_zero, List.set_cons_succ]
  refine wpAnyH_done (by kernel_rfl) ?_ _
  refine NoPanic.normal ?_
  go_wp2
  go_ret2
  exact ⟨rfl, BD.out⟩
end Go.Proofs.YtcpfhfdgfcilaaaGreatDoor.Arr
