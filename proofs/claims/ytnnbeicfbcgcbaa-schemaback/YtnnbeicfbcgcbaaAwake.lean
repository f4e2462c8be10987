/-
  What awake computes: its contract.
-/
import Derived.Test.YtnnbeicfbcgcbaaRows
import Derived.Test.YtnnbeicfbcgcbaaTree
import Derived.Test.YtnnbeicfbcgcbaaText
import Derived.Test.YtnnbeicfbcgcbaaOpen
import Derived.Test.YtnnbeicfbcgcbaaMem
import Derived.Test.YtnnbeicfbcgcbaaMay
import Derived.Test.YtnnbeicfbcgcbaaLev
import Derived.Test.YtnnbeicfbcgcbaaHelp
import Derived.Test.YtnnbeicfbcgcbaaCopy
import Derived.Test.YtnnbeicfbcgcbaaPut
import Derived.Test.YtnnbeicfbcgcbaaTold
import Derived.Test.YtnnbeicfbcgcbaaSPut
import Derived.Test.YtnnbeicfbcgcbaaSGet
import Derived.WalkKit
import Derived.ProofKit
import Derived.OpenShut
import Derived.Below
import Derived.RegionTactic
import Derived.ChangeAlike
import Derived.OwnWalk
namespace Go.Proofs.Ytnnbeicfbcgcbaa.Tree
open Go.ChangeShapes Go.WideShapes Go.ChangeAt Go.RowKit

def t1 : List Nd := [⟨3, -1, false⟩, ⟨1, 0, true⟩]
def s1 : ByteArray := ⟨#[2, 3, 0, 0, 1, 1, 1]⟩
theorem t1_may : may t1 = true := by decide
theorem t1_enc : (⟨(enc t1).toArray⟩ : ByteArray) = s1 := by decide
theorem nil_may : may [] = false := by decide
theorem isT_nil (w : World) (a : Option Addr) : IsT w a [] := ⟨Nat.zero_le _, .inl rfl⟩
theorem s1_text : isText s1 := by
  have := may_true (may_of t1_may) t1_may
  rw [t1_enc] at this
  exact this
theorem s1_dec : decL s1.data.toList = t1 := by
  have := (may_of t1_may).told
  exact this
theorem nil_text : ¬ isText ⟨#[]⟩ := fun h => by
  have := h.1
  unfold headS at this
  simp [ByteArray.size] at this
theorem awP (w : World) (x : Addr) (h : IsT w (some x) t1) :
    Calls Try.prog 9 #[.agg #[.slice (some x) 2 2]] w fun r w' => r = .returned (.tuple #[.string ⟨#[2, 3, 0, 0, 1, 1, 1]⟩, .int .i64 0]) ∧ Below w.heap.size w w' := by
  obtain ⟨y, e, hl⟩ := h.some (by decide)
  cases e
  have := sputY x 2 t1 w hl t1_may
  rw [t1_enc] at this
  exact this
theorem awG (w : World) :
    Calls Try.prog 11 #[.string ⟨#[2, 3, 0, 0, 1, 1, 1]⟩] w fun r w' => ∃ o c, r = .returned (.tuple #[.agg #[.slice o 2 c], .int .i64 0]) ∧ IsT w' o t1 ∧ Below w.heap.size w w' := by
  refine (sgetR t1 0 s1 (by decide) ⟨fun _ => ⟨s1_dec.symm, rfl⟩, fun h => absurd s1_text h⟩ w).mono ?_
  rintro r w' ⟨o, c, rfl, hown, hb⟩
  exact ⟨o, c, rfl, own_lies hown, hb⟩
theorem awP0 (w : World) :
    Calls Try.prog 9 #[.agg #[.slice none 0 0]] w fun r w' => r = .returned (.tuple #[.string ⟨#[]⟩, .int .i64 600]) ∧ Below w.heap.size w w' :=
  sputN none 0 [] w (isT_nil _ _) nil_may
theorem awG0 (w : World) :
    Calls Try.prog 11 #[.string ⟨#[]⟩] w fun r w' => ∃ o c, r = .returned (.tuple #[.agg #[.slice o 0 c], .int .i64 600]) ∧ Below w.heap.size w w' := by
  refine (sgetR [] 600 ⟨#[]⟩ (by decide) ⟨fun h => absurd h nil_text, fun _ => ⟨rfl, rfl⟩⟩ w).mono ?_
  rintro r w' ⟨o, c, rfl, hown, hb⟩
  exact ⟨o, c, rfl, hb⟩
theorem awS (x : Addr) (o : Option Addr) (c : Nat) (w : World) (h : IsT w (some x) t1) (h' : IsT w o t1) :
    Calls Try.prog 14 #[.agg #[.slice (some x) 2 2], .agg #[.slice o 2 c]] w fun r w' => r = .returned (.bool true) ∧ Below w.heap.size w w' :=
  sameType (some x) o 2 c t1 w h h'
/-- The literal of awake. -/
def lit1 (w : World) : World := (w.alloc (Obj.cells #[.int .i64 3, .int .i64 (-1), .bool false, .int .i64 1, .int .i64 0, .bool true] 41)).alloc (Obj.cells #[.slice (some ⟨w.heap.size, 0, none⟩) 2 2] 24)
theorem lit1_is (w : World) : IsT (lit1 w) (some ⟨w.heap.size, 0, none⟩) t1 ∧ (lit1 w).cell? ⟨w.heap.size + 1, 0, none⟩ = some (.slice (some ⟨w.heap.size, 0, none⟩) 2 2) ∧ Below w.heap.size w (lit1 w) := by
  refine ⟨?_, ?_, ((Below.refl _ _).alloc (Nat.le_refl _) _).alloc (by simp) _⟩
  · have hb : Below (w.alloc (Obj.cells #[.int .i64 3, .int .i64 (-1), .bool false, .int .i64 1, .int .i64 0, .bool true] 41)).heap.size _ (lit1 w) := (Below.refl _ _).alloc (Nat.le_refl _) _
    refine IsT.later ⟨by decide, .inr ⟨_, rfl, ?_⟩⟩ hb
    constructor
    all_goals
      intro i hi
      match i, hi with
      | 0, _ => simp [t1, Addr.add]
      | 1, _ => simp [t1, Addr.add]
  · unfold lit1
    simp
set_option maxRecDepth 20000 in
set_option maxHeartbeats 1600000 in
theorem awake (w : World) : Calls Try.prog 16 #[] w fun r w' => r = .returned (.bool true) ∧ Below w.heap.size w w' := by
  obtain ⟨hT, hc, hb⟩ := lit1_is w
  go_enter Try.func16, Try.ntmps16
  go_wp2_with fail
  show Calls _ _ _ (lit1 w) _
  generalize lit1 w = w1 at *
  generalize w.heap.size + 1 = bt at *
  refine (awP w1 _ hT).mono ?_
  rintro e w2 ⟨rfl, hb2⟩
  have hT2 := hT.later hb2
  have hc2 := cell_later hb2 hc
  have hB2 := hb.trans (hb2.mono hb.size)
  clear hT hc hb hb2
  go_wp2_with fail
  refine (awG w2).mono ?_
  rintro e w3 ⟨o, c, rfl, hu, hb3⟩
  obtain ⟨w4, e4, hs4, hc4, hb4⟩ := boxed w3 (.slice o 2 c) 24
  have hT4 := (hT2.later hb3).later hb4
  have hu4 := hu.later hb4
  have hd4 := cell_later hb4 (cell_later hb3 hc2)
  have hB4 := hB2.trans ((bel hb3 hb4).mono hB2.size)
  clear hT2 hu hc2 hB2 hb3 hb4
  go_wp2_with fail
  clear e4
  refine (awP0 w4).mono ?_
  rintro e w5 ⟨rfl, hb5⟩
  have hT5 := hT4.later hb5
  have hu5 := hu4.later hb5
  have hc5 := cell_later hb5 hc4
  have hd5 := cell_later hb5 hd4
  have hB5 := hB4.trans (hb5.mono hB4.size)
  clear hT4 hu4 hc4 hd4 hB4 hb5
  go_wp2_with fail
  refine (awG0 w5).mono ?_
  rintro e w6 ⟨o6, c6, rfl, hb6⟩
  obtain ⟨w7, e7, hs7, hc7, hb7⟩ := boxed w6 (.slice o6 0 c6) 24
  have hb57 := bel hb6 hb7
  have hT7 := hT5.later hb57
  have hu7 := hu5.later hb57
  have hf7 := cell_later hb57 hc5
  have hd7 := cell_later hb57 hd5
  have hB7 := hB5.trans (hb57.mono hB5.size)
  clear hT5 hu5 hc5 hd5 hB5 hb6 hb7 hb57
  go_wp2_with fail
  refine (num _ _).mono ?_
  rintro e w8 ⟨rfl, rfl⟩
  clear e7
  go_wp2_with fail
  refine (awS _ o c _ hT7 hu7).mono ?_
  rintro e w8 ⟨rfl, hb8⟩
  have hB8 := hB7.trans (hb8.mono hB7.size)
  clear hT7 hu7 hB7 hb8 hd7 hf7 hc7
  go_wp2_with fail
  refine (num _ _).mono ?_
  rintro e w' ⟨rfl, rfl⟩
  go_wp2_with fail
  refine (num _ _).mono ?_
  rintro e w' ⟨rfl, rfl⟩
  go_wp2_with fail
  refine (num _ _).mono ?_
  rintro e w' ⟨rfl, rfl⟩
  go_wp2
  go_ret
  exact ⟨rfl, hB8⟩
end Go.Proofs.Ytnnbeicfbcgcbaa.Tree
