/-
  What num.PutVar and the document's own PutVar compute: contracts.
-/
import Derived.Test.YtlbchabmjegobaaRows
import Derived.Test.YtlbchabmjegobaaPlain
import Derived.Test.YtlbchabmjegobaaFixed
import Derived.WalkKit
import Derived.ProofKit
import Derived.OpenShut
import Derived.Below
import Derived.RegionTactic
import Derived.ChangeAlike
import Derived.OwnWalk
import Derived.Laws.IdiomStrings
namespace Go.Proofs.Ytlbchabmjegobaa.Fix
open Go.ChangeShapes Go.WideShapes Go.ChangeAt Go.RowKit

/-- Bytes, as cells. -/
def cells (l : List UInt8) : List Value := l.map fun b => .int .u8 ((b.toNat : Nat) : Int)
theorem cells_snoc (l : List UInt8) (b : UInt8) : cells (l ++ [b]) = cells l ++ [.int .u8 ((b.toNat : Nat) : Int)] := by simp [cells]
theorem own_back {w : World} {base n : Nat} {v : Value} {l : List UInt8} (h : w.ownsRow base 5 1 v n (cells l)) (h0 : 0 < n) : (convert 47 9 v).run Try.prog w = .ok (.string ⟨l.toArray⟩) w := by
  have hl : l.length = n := by have := h.1; simpa [cells] using this
  rcases h.2 with ⟨_, hn⟩ | ⟨g, cap, cur, rfl, _, _, _⟩
  · omega
  · rw [← hl]
    refine run_convert_bytes_back w 47 9 5 ⟨g, 0, none⟩ cap l Try.underlying47 Try.underlying5 Try.underlying9 ?_
    intro j hj
    rw [Addr.add_lit, Nat.zero_add, h.cellAt j (by omega)]
    simp [cells, hj]
theorem make_own (w : World) : ∃ w1, (Instr.makeSlice 47 (.int .i64 0) (.int .i64 5)).run Try.prog w = .ok (.slice (some ⟨w.heap.size, 0, none⟩) 0 5) w1 ∧ w1.ownsRow w.heap.size 5 1 (.slice (some ⟨w.heap.size, 0, none⟩) 0 5) 0 (cells []) ∧ Below w.heap.size w w1 := by
  obtain ⟨i, hi, hz0, hz1, hz2⟩ := info_parts info5
  have := run_make (P := Try.prog) w 47 5 i (.int .u8 0) Try.underlying47 hi hz0 .i64 .i64 0 5 (by omega) (by omega) (by rw [hz2]; omega) (by omega)
  refine ⟨_, this, ?_, (Below.refl _ _).alloc (Nat.le_refl _) _⟩
  refine World.ownsRow_made w _ 5 (Nat.le_refl _) (by unfold maxLen; omega) ?_
  rw [hz1, show (Value.cells (.int .u8 0)) = #[.int .u8 0] from rfl, ← Array.length_toList, toList_madeCells_one, List.length_replicate]
  rfl

set_option maxRecDepth 20000 in
set_option maxHeartbeats 800000 in
theorem putVar_yes (x : Nat) (w : World) (hx : x ≤ 2147483647) :
    Calls Try.prog 12 #[.int .i64 (x : Int)] w fun r w' => r = .returned (.tuple #[.string ⟨(Plain.vb x).toArray⟩, .int .i64 0]) ∧ Below w.heap.size w w' := by
  have h1 : shortB (x : Int) = true := decide_eq_true (by omega)
  have h5 := Plain.vb_len 4 x (by omega)
  obtain ⟨i5, hi, hz0, hz1, hz2⟩ := info_parts info5
  obtain ⟨w1, hmk, hown1, hbl1⟩ := make_own w
  go_enter Try.func12, Try.ntmps12
  go_wp2_with fail
  refine (isShort _ _).mono ?_
  rintro e w' ⟨rfl, rfl⟩
  rw [h1]
  go_wp2_with fail
  go_loopw [4, 5] (fun v t wr => ∃ (y : Nat) (p : List UInt8), t = .int .u64 (y : Int) ∧ y ≤ x ∧ Plain.vb x = p ++ Plain.vb y ∧ wr.ownsRow w'.heap.size 5 1 v p.length (cells p) ∧ Below w'.heap.size w' wr) (fun _ t _ => (intOf t).toNat)
  case atStart => exact ⟨x, [], rfl, by omega, rfl, hown1, hbl1⟩
  case round =>
    obtain ⟨y, p, rfl, hy, hp, hown, hbl⟩ := hrel
    have HP : Hid (Plain.vb x = p ++ Plain.vb y) := hp
    have hlen : p.length + (Plain.vb y).length ≤ 5 := by rw [hp, List.length_append] at h5; exact h5
    have hp5 : p.length < 5 := by have hone := Plain.vb_some y; omega
    clear hp hmk hown1 hbl1 h5 hlen
    by_cases hlt : 128 ≤ y
    · have HM : Hid (Plain.vb y = UInt8.ofNat (y % 128 + 128) :: Plain.vb (y / 128)) := Plain.vb_more y hlt
      have ho : bits BinOp.or IntKind.u8 ((y : Int) % 256) 128 = ((y % 128 + 128 : Nat) : Int) := by
        have := Plain.or128 (y % 256) (by omega)
        rw [Int.natCast_emod, show y % 256 % 128 = y % 128 from by omega] at this
        exact this
      have hu : ((UInt8.ofNat (y % 128 + 128)).toNat : Int) = ((y % 128 + 128 : Nat) : Int) := by simp; omega
      rw [← hu] at ho
      have HU := HM
      generalize UInt8.ofNat (y % 128 + 128) = b at *
      clear hu HM
      go_wp2_with (at_builtin; refine wpList_append_own _ rfl (.tmp 14) (.tmp 18) 47 rfl w'.heap.size 5 i5 (.int .u8 0) 1 1 Try.underlying47 hi hz0 hz1 hz2 rfl (by decide) _ p.length _ rfl (hown.alloc _) ⟨wr.heap.size, 0, none⟩ 1 1 [.int .u8 ((b.toNat : Nat) : Int)] rfl rfl ?c1 ?c2 ?c3 ?c4 ?c5 ?_)
      case c1 =>
        intro j u hj
        match j, hj with
        | 0, hj => simp at hj; subst hj; simp [Addr.add]
      case c2 => intro u hu; simp at hu; subst hu; rfl
      case c3 => unfold maxLen; omega
      case c4 => omega
      case c5 => have := hbl.size; simp; omega
      intro v' w3 hown' hgrow _
      have hb3 : Below w'.heap.size w' w3 := (hbl.alloc hbl.size _).grown hgrow (by have := hbl.size; simp; omega) (fun j hj => (hown.lt j hj).1)
      have hown3 : w3.ownsRow w'.heap.size 5 1 v' (p ++ [b]).length (cells (p ++ [b])) := by
        rw [cells_snoc, List.length_append]
        exact hown'
      clear hown hgrow hbl hown'
      have HP3 : Hid (Plain.vb x = (p ++ [b]) ++ Plain.vb (y / 128)) := by unfold Hid; rw [HP.out, HU.out]; simp
      generalize p ++ [b] = p3 at *
      clear HP HU ho
      go_wp2
      go_roundw
      case rel => exact ⟨y / 128, p3, by go_num, by omega, HP3.out, hown3, hb3⟩
      case measure => simp [intOf]; omega
    · have HF : Hid (Plain.vb y = [UInt8.ofNat y]) := Plain.vb_few y (by omega)
      have hu : ((UInt8.ofNat y).toNat : Int) = (y : Int) := by simp; omega
      have ho : (y : Int) = ((UInt8.ofNat y).toNat : Int) := hu.symm
      have HO : Hid ((y : Int) = ((UInt8.ofNat y).toNat : Int)) := ho
      clear hu ho
      go_wp2_with (at_builtin; refine wpList_append_own _ rfl (.tmp 22) (.tmp 25) 47 rfl w'.heap.size 5 i5 (.int .u8 0) 1 1 Try.underlying47 hi hz0 hz1 hz2 rfl (by decide) _ p.length _ rfl (hown.alloc _) ⟨wr.heap.size, 0, none⟩ 1 1 [.int .u8 (y : Int)] rfl rfl ?c1 ?c2 ?c3 ?c4 ?c5 ?_)
      case c1 =>
        intro j u hj
        match j, hj with
        | 0, hj => simp at hj; subst hj; simp [Addr.add]
      case c2 => intro u hu; simp at hu; subst hu; rfl
      case c3 => unfold maxLen; omega
      case c4 => omega
      case c5 => have := hbl.size; simp; omega
      intro v' w3 hown' hgrow _
      have hb3 : Below w'.heap.size w' w3 := (hbl.alloc hbl.size _).grown hgrow (by have := hbl.size; simp; omega) (fun j hj => (hown.lt j hj).1)
      have hown3 : w3.ownsRow w'.heap.size 5 1 v' (p ++ [UInt8.ofNat y]).length (cells (p ++ [UInt8.ofNat y])) := by
        rw [cells_snoc, List.length_append, ← HO.out]
        exact hown'
      clear hown hgrow hbl hown'
      have HP3 : Hid (Plain.vb x = p ++ [UInt8.ofNat y]) := by unfold Hid; rw [HP.out, HF.out]
      rw [← HP3.out] at hown3
      have hbk := own_back hown3 (Plain.vb_some x)
      clear HP HF HO HP3 hown3
      go_wp2
      go_ret2
      exact ⟨rfl, hb3⟩

set_option maxHeartbeats 400000 in
theorem putVar_no (x : Int) (w : World) (h : ¬ (0 ≤ x ∧ x ≤ 2147483647)) :
    Calls Try.prog 12 #[.int .i64 x] w fun r w' => r = .returned (.tuple #[.string ⟨#[]⟩, .int .i64 300]) ∧ w' = w := by
  have h1 : shortB x = false := decide_eq_false h
  clear h
  go_enter Try.func12, Try.ntmps12
  go_wp2_with fail
  refine (isShort _ _).mono ?_
  rintro e w' ⟨rfl, rfl⟩
  rw [h1]
  go_wp2
  go_ret2
  exact ⟨rfl, rfl⟩
theorem refUp (x a b : Int) (w : World) :
    Calls Try.prog 24 #[.int .i64 x, .int .i64 a, .int .i64 b] w fun r w' => r = .returned (.bool (decide (a ≤ x ∧ x ≤ b))) ∧ w' = w := by
  by_cases h : a ≤ x
  · go_enter Try.func24, Try.ntmps24
    go_wp2
    go_ret
    exact ⟨ret_bool (by simp [h]), rfl⟩
  · go_enter Try.func24, Try.ntmps24
    go_wp2
    go_ret
    exact ⟨ret_bool (by simp; omega), rfl⟩
theorem refIn (x : Int) (w : World) :
    Calls Try.prog 20 #[.int .i64 x] w fun r w' => r = .returned (.bool (shortB x)) ∧ w' = w := by
  go_enter Try.func20, Try.ntmps20
  go_wp2_with fail
  refine (refUp _ _ _ _).mono ?_
  rintro e w' ⟨rfl, rfl⟩
  rw [show decide (0 ≤ x ∧ x ≤ 2147483647) = shortB x from rfl]
  go_wp2
  go_ret
  exact ⟨rfl, rfl⟩
set_option maxHeartbeats 400000 in
theorem refPutVar_no (x : Int) (w : World) (h : ¬ (0 ≤ x ∧ x ≤ 2147483647)) :
    Calls Try.prog 13 #[.int .i64 x] w fun r w' => r = .returned (.tuple #[.string ⟨#[]⟩, .int .i64 300]) ∧ w' = w := by
  have h1 : shortB x = false := decide_eq_false h
  clear h
  go_enter Try.func13, Try.ntmps13
  go_wp2_with fail
  refine (refIn _ _).mono ?_
  rintro e w' ⟨rfl, rfl⟩
  rw [h1]
  go_wp2
  go_ret2
  exact ⟨rfl, rfl⟩
set_option maxRecDepth 20000 in
set_option maxHeartbeats 800000 in
theorem refPutVar_yes (x : Nat) (w : World) (hx : x ≤ 2147483647) :
    Calls Try.prog 13 #[.int .i64 (x : Int)] w fun r w' => r = .returned (.tuple #[.string ⟨(Plain.vb x).toArray⟩, .int .i64 0]) ∧ Below w.heap.size w w' := by
  have h1 : shortB (x : Int) = true := decide_eq_true (by omega)
  have h5 := Plain.vb_len 4 x (by omega)
  obtain ⟨i5, hi, hz0, hz1, hz2⟩ := info_parts info5
  go_enter Try.func13, Try.ntmps13
  go_wp2_with fail
  refine (refIn _ _).mono ?_
  rintro e w' ⟨rfl, rfl⟩
  rw [h1]
  go_wp2_with fail
  go_loopw [4, 0] (fun v t wr => ∃ (y : Nat) (p : List UInt8), t = .int .i64 (y : Int) ∧ y ≤ x ∧ Plain.vb x = p ++ Plain.vb y ∧ wr.ownsRow w'.heap.size 5 1 v p.length (cells p) ∧ Below w'.heap.size w' wr) (fun _ t _ => (intOf t).toNat)
  case atStart => exact ⟨x, [], rfl, by omega, rfl, World.ownsRow_nil _ _ _ _, Below.refl _ _⟩
  case round =>
    obtain ⟨y, p, rfl, hy, hp, hown, hbl⟩ := hrel
    have HP : Hid (Plain.vb x = p ++ Plain.vb y) := hp
    have hlen : p.length + (Plain.vb y).length ≤ 5 := by rw [hp, List.length_append] at h5; exact h5
    have hp5 : p.length < 5 := by have hone := Plain.vb_some y; omega
    clear hp h5 hlen
    by_cases hlt : 128 ≤ y
    · have HM : Hid (Plain.vb y = UInt8.ofNat (y % 128 + 128) :: Plain.vb (y / 128)) := Plain.vb_more y hlt
      have ha : bits BinOp.and IntKind.i64 (y : Int) 127 = (y : Int) % 128 := Plain.and7 y
      have ho : bits BinOp.or IntKind.i64 ((y : Int) % 128) 128 = ((y % 128 + 128 : Nat) : Int) := by
        have := Plain.or128i (y % 128) (by omega)
        rw [Int.natCast_emod] at this
        exact this
      have hu : ((UInt8.ofNat (y % 128 + 128)).toNat : Int) = ((y % 128 + 128 : Nat) : Int) := by simp; omega
      rw [← hu] at ho
      have HU := HM
      generalize UInt8.ofNat (y % 128 + 128) = b at *
      clear hu HM
      go_wp2_with (at_builtin; refine wpList_append_own _ rfl (.tmp 10) (.tmp 15) 47 rfl w'.heap.size 5 i5 (.int .u8 0) 1 1 Try.underlying47 hi hz0 hz1 hz2 rfl (by decide) _ p.length _ rfl (hown.alloc _) ⟨wr.heap.size, 0, none⟩ 1 1 [.int .u8 ((b.toNat : Nat) : Int)] rfl rfl ?c1 ?c2 ?c3 ?c4 ?c5 ?_)
      case c1 =>
        intro j u hj
        match j, hj with
        | 0, hj => simp at hj; subst hj; have := Plain.byte_lt b; simp [Addr.add]; omega
      case c2 => intro u hu; simp at hu; subst hu; rfl
      case c3 => unfold maxLen; omega
      case c4 => omega
      case c5 => have := hbl.size; simp; omega
      intro v' w3 hown' hgrow _
      have hb3 : Below w'.heap.size w' w3 := (hbl.alloc hbl.size _).grown hgrow (by have := hbl.size; simp; omega) (fun j hj => (hown.lt j hj).1)
      have hown3 : w3.ownsRow w'.heap.size 5 1 v' (p ++ [b]).length (cells (p ++ [b])) := by
        rw [cells_snoc, List.length_append]
        exact hown'
      clear hown hgrow hbl hown'
      have HP3 : Hid (Plain.vb x = (p ++ [b]) ++ Plain.vb (y / 128)) := by unfold Hid; rw [HP.out, HU.out]; simp
      generalize p ++ [b] = p3 at *
      clear HP HU ho ha
      go_wp2
      go_roundw
      case rel => exact ⟨y / 128, p3, by go_num, by omega, HP3.out, hown3, hb3⟩
      case measure => simp [intOf]; omega
    · have HF : Hid (Plain.vb y = [UInt8.ofNat y]) := Plain.vb_few y (by omega)
      have hu : ((UInt8.ofNat y).toNat : Int) = (y : Int) := by simp; omega
      have ho : (y : Int) = ((UInt8.ofNat y).toNat : Int) := hu.symm
      have HO : Hid ((y : Int) = ((UInt8.ofNat y).toNat : Int)) := ho
      clear hu ho
      go_wp2_with (at_builtin; refine wpList_append_own _ rfl (.tmp 19) (.tmp 22) 47 rfl w'.heap.size 5 i5 (.int .u8 0) 1 1 Try.underlying47 hi hz0 hz1 hz2 rfl (by decide) _ p.length _ rfl (hown.alloc _) ⟨wr.heap.size, 0, none⟩ 1 1 [.int .u8 (y : Int)] rfl rfl ?c1 ?c2 ?c3 ?c4 ?c5 ?_)
      case c1 =>
        intro j u hj
        match j, hj with
        | 0, hj => simp at hj; subst hj; simp [Addr.add]
      case c2 => intro u hu; simp at hu; subst hu; rfl
      case c3 => unfold maxLen; omega
      case c4 => omega
      case c5 => have := hbl.size; simp; omega
      intro v' w3 hown' hgrow _
      have hb3 : Below w'.heap.size w' w3 := (hbl.alloc hbl.size _).grown hgrow (by have := hbl.size; simp; omega) (fun j hj => (hown.lt j hj).1)
      have hown3 : w3.ownsRow w'.heap.size 5 1 v' (p ++ [UInt8.ofNat y]).length (cells (p ++ [UInt8.ofNat y])) := by
        rw [cells_snoc, List.length_append, ← HO.out]
        exact hown'
      clear hown hgrow hbl hown'
      have HP3 : Hid (Plain.vb x = p ++ [UInt8.ofNat y]) := by unfold Hid; rw [HP.out, HF.out]
      rw [← HP3.out] at hown3
      have hbk := own_back hown3 (Plain.vb_some x)
      clear HP HF HO HP3 hown3
      go_wp2
      go_ret2
      exact ⟨rfl, hb3⟩
end Go.Proofs.Ytlbchabmjegobaa.Fix
