/-
  What the functions of package pad, and the document's answers beside them, compute: contracts for the statements of this seat.
-/
import Derived.Test.YtjgkhpkligodkaaRows
import Derived.Test.YtjgkhpkligodkaaPlain
import Derived.WalkKit
import Derived.ProofKit
import Derived.OpenShut
import Derived.Below
namespace Go.Proofs.Ytjgkhpkligodkaa.Pad
open Go.ChangeShapes Go.WideShapes Go.ChangeAt Go.RowKit

def inB (x : Int) : Bool := decide (0 ≤ x ∧ x ≤ 2147483647)
theorem inB_yes {x : Int} (h0 : 0 ≤ x) (h1 : x ≤ 2147483647) : inB x = true := decide_eq_true ⟨h0, h1⟩
theorem inB_no {x : Int} (h : ¬ (0 ≤ x ∧ x ≤ 2147483647)) : inB x = false := decide_eq_false h
theorem inB_iff {x : Int} : inB x = true ↔ 0 ≤ x ∧ x ≤ 2147483647 := decide_eq_true_iff
theorem inB_iff' {x : Int} : inB x = false ↔ ¬ (0 ≤ x ∧ x ≤ 2147483647) := decide_eq_false_iff_not

theorem bel {a b c : World} (h : Below a.heap.size a b) (k : Below b.heap.size b c) : Below a.heap.size a c := h.trans (k.mono h.size)

theorem num (e : Int) (w : World) :
    Calls Try.prog 14 #[.int .i64 e] w fun r w' => r = .returned (.int .i64 e) ∧ w' = w := by
  go_enter Try.func14, Try.ntmps14
  go_wp2
  go_ret
  exact ⟨rfl, rfl⟩

theorem upTo (x : Int) (w : World) :
    Calls Try.prog 19 #[.int .i64 x, .int .i64 0, .int .i64 2147483647] w fun r w' => r = .returned (.bool (inB x)) ∧ w' = w := by
  by_cases h0 : 0 ≤ x
  · by_cases h1 : x ≤ 2147483647
    · rw [inB_yes h0 h1]
      go_enter Try.func19, Try.ntmps19
      go_wp2
      go_ret
      exact ⟨rfl, rfl⟩
    · rw [inB_no (by omega)]
      go_enter Try.func19, Try.ntmps19
      go_wp2
      go_ret
      exact ⟨rfl, rfl⟩
  · rw [inB_no (by omega)]
    go_enter Try.func19, Try.ntmps19
    go_wp2
    go_ret
    exact ⟨rfl, rfl⟩

theorem refIn (x : Int) (w : World) :
    Calls Try.prog 17 #[.int .i64 x] w fun r w' => r = .returned (.bool (inB x)) ∧ w' = w := by
  go_enter Try.func17, Try.ntmps17
  go_wp2_with (go_at_call 19; refine (upTo _ _).mono ?_; rintro e w' ⟨rfl, rfl⟩)
  go_ret
  exact ⟨rfl, rfl⟩


/-- What is told where the given numbers may be some and the outcome is v. -/
def val (ok : Bool) (v : Int) : Int := if ok = true ∧ inB v = true then v else 0
def err (ok : Bool) (v : Int) : Int := if ok = true ∧ inB v = true then 0 else 100
theorem val_no {ok : Bool} {v : Int} (h : ok = false ∨ inB v = false) : val ok v = 0 := by
  unfold val; rw [if_neg]; rintro ⟨a, b⟩; rcases h with h | h <;> simp_all
theorem err_no {ok : Bool} {v : Int} (h : ok = false ∨ inB v = false) : err ok v = 100 := by
  unfold err; rw [if_neg]; rintro ⟨a, b⟩; rcases h with h | h <;> simp_all
theorem val_yes {ok : Bool} {v : Int} (h : ok = true) (h2 : inB v = true) : val ok v = v := by unfold val; rw [if_pos ⟨h, h2⟩]
theorem err_yes {ok : Bool} {v : Int} (h : ok = true) (h2 : inB v = true) : err ok v = 0 := by unfold err; rw [if_pos ⟨h, h2⟩]

set_option maxHeartbeats 400000 in
theorem told (x : Int) (w : World) :
    Calls Try.prog 18 #[.bool true, .int .i64 x] w fun r w' => r = .returned (.tuple #[.int .i64 (val true x), .int .i64 (err true x)]) ∧ w' = w := by
  cases h : inB x
  · rw [val_no (.inr h), err_no (.inr h)]
    go_enter Try.func18, Try.ntmps18
    go_wp2_with (go_at_call 17; refine (refIn _ _).mono ?_; rintro e w' ⟨rfl, rfl⟩; rw [h])
    go_ret2
    exact ⟨rfl, rfl⟩
  · rw [val_yes rfl h, err_yes rfl h]
    go_enter Try.func18, Try.ntmps18
    go_wp2_with (go_at_call 17; refine (refIn _ _).mono ?_; rintro e w' ⟨rfl, rfl⟩; rw [h])
    go_ret2
    exact ⟨rfl, rfl⟩

def upN (x : Int) : Int := (x + 8 - 1) / 8 * 8

set_option maxHeartbeats 400000 in
theorem refUp (x : Int) (w : World) :
    Calls Try.prog 9 #[.int .i64 x] w fun r w' => r = .returned (.tuple #[.int .i64 (val (inB x) (upN x)), .int .i64 (err (inB x) (upN x))]) ∧ w' = w := by
  cases h : inB x
  · rw [val_no (.inl rfl), err_no (.inl rfl)]
    go_enter Try.func9, Try.ntmps9
    go_wp2_with (go_at_call 17; refine (refIn _ _).mono ?_; rintro e w' ⟨rfl, rfl⟩; rw [h])
    go_ret2
    exact ⟨rfl, rfl⟩
  · obtain ⟨h0, h1⟩ := inB_iff.1 h
    go_enter Try.func9, Try.ntmps9
    go_wp2_with (first | (go_at_call 17; refine (refIn _ _).mono ?_; rintro e w' ⟨rfl, rfl⟩; rw [h]) | (go_at_call 18; refine (told _ _).mono ?_; rintro e w' ⟨rfl, rfl⟩))
    go_ret2
    exact ⟨rfl, rfl⟩

set_option maxHeartbeats 400000 in
theorem refAdd (a b : Int) (w : World) :
    Calls Try.prog 11 #[.int .i64 a, .int .i64 b] w fun r w' => r = .returned (.tuple #[.int .i64 (val (inB a && inB b) (a + b)), .int .i64 (err (inB a && inB b) (a + b))]) ∧ w' = w := by
  cases ha : inB a
  · rw [Bool.false_and, val_no (.inl rfl), err_no (.inl rfl)]
    go_enter Try.func11, Try.ntmps11
    go_wp2_with (go_at_call 17; refine (refIn _ _).mono ?_; rintro e w' ⟨rfl, rfl⟩; rw [ha])
    go_ret2
    exact ⟨rfl, rfl⟩
  · cases hb : inB b
    · rw [Bool.and_false, val_no (.inl rfl), err_no (.inl rfl)]
      go_enter Try.func11, Try.ntmps11
      go_wp2_with (go_at_call 17; refine (refIn _ _).mono ?_; rintro e w' ⟨rfl, rfl⟩; first | rw [ha] | rw [hb])
      go_ret2
      exact ⟨rfl, rfl⟩
    · obtain ⟨h0, h1⟩ := inB_iff.1 ha
      obtain ⟨h2, h3⟩ := inB_iff.1 hb
      go_enter Try.func11, Try.ntmps11
      go_wp2_with (first | (go_at_call 17; refine (refIn _ _).mono ?_; rintro e w' ⟨rfl, rfl⟩; first | rw [ha] | rw [hb]) | (go_at_call 18; refine (told _ _).mono ?_; rintro e w' ⟨rfl, rfl⟩))
      go_ret2
      exact ⟨rfl, rfl⟩

theorem mul_bd {a b : Int} (h0 : 0 ≤ a) (h1 : a ≤ 2147483647) (h2 : 0 ≤ b) (h3 : b ≤ 2147483647) : 0 ≤ a * b ∧ a * b ≤ 4611686014132420609 := by
  refine ⟨Int.mul_nonneg h0 h2, ?_⟩
  have := Int.mul_le_mul h1 h3 h2 (by omega : (0 : Int) ≤ 2147483647)
  omega

set_option maxHeartbeats 400000 in
theorem refMul (a b : Int) (w : World) :
    Calls Try.prog 13 #[.int .i64 a, .int .i64 b] w fun r w' => r = .returned (.tuple #[.int .i64 (val (inB a && inB b) (a * b)), .int .i64 (err (inB a && inB b) (a * b))]) ∧ w' = w := by
  cases ha : inB a
  · rw [Bool.false_and, val_no (.inl rfl), err_no (.inl rfl)]
    go_enter Try.func13, Try.ntmps13
    go_wp2_with (go_at_call 17; refine (refIn _ _).mono ?_; rintro e w' ⟨rfl, rfl⟩; rw [ha])
    go_ret2
    exact ⟨rfl, rfl⟩
  · cases hb : inB b
    · rw [Bool.and_false, val_no (.inl rfl), err_no (.inl rfl)]
      go_enter Try.func13, Try.ntmps13
      go_wp2_with (go_at_call 17; refine (refIn _ _).mono ?_; rintro e w' ⟨rfl, rfl⟩; first | rw [ha] | rw [hb])
      go_ret2
      exact ⟨rfl, rfl⟩
    · obtain ⟨h0, h1⟩ := inB_iff.1 ha
      obtain ⟨h2, h3⟩ := inB_iff.1 hb
      obtain ⟨h4, h5⟩ := mul_bd h0 h1 h2 h3
      go_enter Try.func13, Try.ntmps13
      go_wp2_with (first | (go_at_call 17; refine (refIn _ _).mono ?_; rintro e w' ⟨rfl, rfl⟩; first | rw [ha] | rw [hb]) | (go_at_call 18; refine (told _ _).mono ?_; rintro e w' ⟨rfl, rfl⟩))
      go_ret2
      exact ⟨rfl, rfl⟩

theorem ret_bool {a b : Bool} (h : a = b) : Ending.returned (.bool a) = .returned (.bool b) := by rw [h]
theorem all_take_snoc (zs : List Int) (k : Nat) (h : k < zs.length) (h1 : (zs.take k).all inB = true) (h2 : inB (zs.getD k 0) = true) : (zs.take (k + 1)).all inB = true := by
  rw [List.take_succ_eq_append_getElem h, List.all_append, h1]
  simpa [List.getElem?_eq_getElem h] using h2
theorem all_no (zs : List Int) (k : Nat) (h : k < zs.length) (h2 : inB (zs.getD k 0) = false) : zs.all inB = false := by
  rw [List.all_eq_false]
  exact ⟨zs[k], List.getElem_mem h, by simpa [List.getElem?_eq_getElem h] using h2⟩

set_option maxHeartbeats 400000 in
theorem in16 (zs : List Int) (b : Nat) (w : World) (hc : ∀ i, i < zs.length → w.cell? ⟨b, i, none⟩ = some (.int .i64 (zs.getD i 0))) (hl : zs.length ≤ 100) :
    Calls Try.prog 16 #[.slice (some ⟨b, 0, none⟩) zs.length zs.length] w fun r w' => r = .returned (.bool (zs.all inB)) ∧ w' = w := by
  have HC : Hid (∀ i, i < zs.length → w.cell? ⟨b, i, none⟩ = some (.int .i64 (zs.getD i 0))) := hc
  clear hc
  go_enter Try.func16, Try.ntmps16
  go_wp2
  go_loop [7] (fun i => ∃ k : Nat, k ≤ zs.length ∧ i = .int .i64 k ∧ Hid ((zs.take k).all inB = true)) (fun i => zs.length - (intOf i).toNat)
  case atStart => exact ⟨0, Nat.zero_le _, rfl, rfl⟩
  case round =>
    obtain ⟨k, hk, rfl, ht⟩ := hrel
    by_cases hlt : k < zs.length
    · have hcell := HC.out k hlt
      by_cases h0 : 0 ≤ zs.getD k 0
      · by_cases h1 : zs.getD k 0 ≤ 2147483647
        · have hn := all_take_snoc zs k hlt ht.out (inB_yes h0 h1)
          have HN : Hid ((zs.take (k + 1)).all inB = true) := hn
          clear hn
          generalize zs.getD k 0 = z at *
          go_wp2
          go_round
          case rel => exact ⟨k + 1, by omega, by go_num, HN⟩
          case measure => simp [intOf]; omega
        · have HN : Hid (zs.all inB = false) := all_no zs k hlt (inB_no (by omega))
          generalize zs.getD k 0 = z at *
          go_wp2
          go_ret
          exact ⟨ret_bool HN.out.symm, rfl⟩
      · have HN : Hid (zs.all inB = false) := all_no zs k hlt (inB_no (by omega))
        generalize zs.getD k 0 = z at *
        go_wp2
        go_ret
        exact ⟨ret_bool HN.out.symm, rfl⟩
    · have HN : Hid (zs.all inB = true) := by have := ht.out; rw [List.take_of_length_le (by omega)] at this; exact this
      go_wp2
      go_ret
      exact ⟨ret_bool HN.out.symm, rfl⟩

theorem in1 (x : Int) (w : World) :
    Calls Try.prog 16 #[.slice (some ⟨w.heap.size, 0, none⟩) 1 1] (w.alloc (.cells #[.int .i64 x] 3)) fun r w' => r = .returned (.bool (inB x)) ∧ w' = w.alloc (.cells #[.int .i64 x] 3) := by
  refine (in16 [x] w.heap.size _ ?_ (by simp)).mono ?_
  · intro i hi
    match i, hi with
    | 0, _ => simp [go_sem]
  · rintro r w' ⟨rfl, rfl⟩
    exact ⟨ret_bool (by simp), rfl⟩
theorem in2 (x y : Int) (w : World) :
    Calls Try.prog 16 #[.slice (some ⟨w.heap.size, 0, none⟩) 2 2] (w.alloc (.cells #[.int .i64 x, .int .i64 y] 3)) fun r w' => r = .returned (.bool (inB x && inB y)) ∧ w' = w.alloc (.cells #[.int .i64 x, .int .i64 y] 3) := by
  refine (in16 [x, y] w.heap.size _ ?_ (by simp)).mono ?_
  · intro i hi
    match i, hi with
    | 0, _ => simp [go_sem]
    | 1, _ => simp [go_sem]
  · rintro r w' ⟨rfl, rfl⟩
    exact ⟨ret_bool (by simp), rfl⟩

set_option maxHeartbeats 400000 in
theorem add (a b : Int) (w : World) :
    Calls Try.prog 10 #[.int .i64 a, .int .i64 b] w fun r w' => r = .returned (.tuple #[.int .i64 (val (inB a && inB b) (a + b)), .int .i64 (err (inB a && inB b) (a + b))]) ∧ Below w.heap.size w w' := by
  cases hab : (inB a && inB b)
  · rw [val_no (.inl rfl), err_no (.inl rfl)]
    go_enter Try.func10, Try.ntmps10
    go_wp2_with (go_at_call 16; refine (in2 _ _ _).mono ?_; rintro e w' ⟨rfl, rfl⟩; rw [hab])
    go_ret2
    exact ⟨rfl, (Below.refl _ _).alloc (Nat.le_refl _) _⟩
  · have hab' := hab
    rw [Bool.and_eq_true] at hab'
    obtain ⟨h0, h1⟩ := inB_iff.1 hab'.1
    obtain ⟨h2, h3⟩ := inB_iff.1 hab'.2
    clear hab'
    by_cases hs : b > 2147483647 - a
    · rw [val_no (.inr (inB_no (by omega))), err_no (.inr (inB_no (by omega)))]
      go_enter Try.func10, Try.ntmps10
      go_wp2_with (go_at_call 16; refine (in2 _ _ _).mono ?_; rintro e w' ⟨rfl, rfl⟩; rw [hab])
      go_ret2
      exact ⟨rfl, (Below.refl _ _).alloc (Nat.le_refl _) _⟩
    · rw [val_yes rfl (inB_yes (by omega) (by omega)), err_yes rfl (inB_yes (by omega) (by omega))]
      go_enter Try.func10, Try.ntmps10
      go_wp2_with (go_at_call 16; refine (in2 _ _ _).mono ?_; rintro e w' ⟨rfl, rfl⟩; rw [hab])
      go_ret2
      exact ⟨rfl, (Below.refl _ _).alloc (Nat.le_refl _) _⟩

theorem mul_over {a b : Int} (h0 : 0 < a) (hb : 2147483647 / a < b) : 2147483647 < a * b := by
  have := (Int.ediv_lt_iff_lt_mul h0).1 hb
  rw [Int.mul_comm]; exact this
theorem mul_fits {a b : Int} (h0 : 0 < a) (hb : ¬ 2147483647 / a < b) : a * b ≤ 2147483647 := by
  have := (Int.le_ediv_iff_mul_le h0).1 (Int.not_lt.1 hb)
  rw [Int.mul_comm]; exact this

set_option maxHeartbeats 400000 in
theorem mul (a b : Int) (w : World) :
    Calls Try.prog 12 #[.int .i64 a, .int .i64 b] w fun r w' => r = .returned (.tuple #[.int .i64 (val (inB a && inB b) (a * b)), .int .i64 (err (inB a && inB b) (a * b))]) ∧ Below w.heap.size w w' := by
  cases hab : (inB a && inB b)
  · rw [val_no (.inl rfl), err_no (.inl rfl)]
    go_enter Try.func12, Try.ntmps12
    go_wp2_with (go_at_call 16; refine (in2 _ _ _).mono ?_; rintro e w' ⟨rfl, rfl⟩; rw [hab])
    go_ret2
    exact ⟨rfl, (Below.refl _ _).alloc (Nat.le_refl _) _⟩
  · have hab' := hab
    rw [Bool.and_eq_true] at hab'
    obtain ⟨h0, h1⟩ := inB_iff.1 hab'.1
    obtain ⟨h2, h3⟩ := inB_iff.1 hab'.2
    clear hab'
    by_cases hz : 0 < a
    · by_cases hs : 2147483647 / a < b
      · have := mul_over hz hs
        rw [val_no (.inr (inB_no (by omega))), err_no (.inr (inB_no (by omega)))]
        clear this
        go_enter Try.func12, Try.ntmps12
        go_wp2_with (go_at_call 16; refine (in2 _ _ _).mono ?_; rintro e w' ⟨rfl, rfl⟩; rw [hab])
        go_ret2
        exact ⟨rfl, (Below.refl _ _).alloc (Nat.le_refl _) _⟩
      · have h4 := mul_fits hz hs
        have h5 := Int.mul_nonneg h0 h2
        rw [val_yes rfl (inB_yes (by omega) (by omega)), err_yes rfl (inB_yes (by omega) (by omega))]
        go_enter Try.func12, Try.ntmps12
        go_wp2_with (go_at_call 16; refine (in2 _ _ _).mono ?_; rintro e w' ⟨rfl, rfl⟩; rw [hab])
        go_ret2
        exact ⟨rfl, (Below.refl _ _).alloc (Nat.le_refl _) _⟩
    · obtain rfl : a = 0 := by omega
      rw [Int.zero_mul, val_yes rfl (inB_yes (by omega) (by omega)), err_yes rfl (inB_yes (by omega) (by omega))]
      go_enter Try.func12, Try.ntmps12
      go_wp2_with (go_at_call 16; refine (in2 _ _ _).mono ?_; rintro e w' ⟨rfl, rfl⟩; rw [hab])
      go_ret2
      exact ⟨rfl, (Below.refl _ _).alloc (Nat.le_refl _) _⟩

theorem upN_rest {x : Int} (h : x % 8 ≠ 0) : x + (8 - x % 8) = upN x := by unfold upN; omega
theorem upN_even {x : Int} (h : x % 8 = 0) : x = upN x := by unfold upN; omega

set_option maxHeartbeats 400000 in
theorem up (x : Int) (w : World) :
    Calls Try.prog 8 #[.int .i64 x] w fun r w' => r = .returned (.tuple #[.int .i64 (val (inB x) (upN x)), .int .i64 (err (inB x) (upN x))]) ∧ Below w.heap.size w w' := by
  cases hx : inB x
  · rw [val_no (.inl rfl), err_no (.inl rfl)]
    go_enter Try.func8, Try.ntmps8
    go_wp2_with (go_at_call 16; refine (in1 _ _).mono ?_; rintro e w' ⟨rfl, rfl⟩; rw [hx])
    go_ret2
    exact ⟨rfl, (Below.refl _ _).alloc (Nat.le_refl _) _⟩
  · obtain ⟨h0, h1⟩ := inB_iff.1 hx
    by_cases hr : x % 8 = 0
    · have he := upN_even hr
      rw [← he, val_yes rfl hx, err_yes rfl hx]
      clear he
      go_enter Try.func8, Try.ntmps8
      go_wp2_with (go_at_call 16; refine (in1 _ _).mono ?_; rintro e w' ⟨rfl, rfl⟩; rw [hx])
      go_ret2
      exact ⟨rfl, (Below.refl _ _).alloc (Nat.le_refl _) _⟩
    · rw [← upN_rest hr]
      have h8 : inB (8 - x % 8) = true := inB_yes (by omega) (by omega)
      go_enter Try.func8, Try.ntmps8
      go_wp2_with (first | (go_at_call 16; refine (in1 _ _).mono ?_; rintro e w' ⟨rfl, rfl⟩; rw [hx]) | (go_at_call 10; refine (add _ _ _).mono ?_; rintro e w1 ⟨rfl, hb⟩; rw [hx, h8]))
      go_ret2
      exact ⟨rfl, ((Below.refl _ _).alloc (Nat.le_refl _) _).trans (hb.mono (by simp))⟩

theorem up_yes {x : Int} (w : World) (h0 : 0 ≤ x) (h1 : x ≤ 2147483640) :
    Calls Try.prog 8 #[.int .i64 x] w fun r w' => r = .returned (.tuple #[.int .i64 (upN x), .int .i64 0]) ∧ Below w.heap.size w w' := by
  refine (up x w).mono ?_
  rintro r w' ⟨rfl, hb⟩
  have hu : inB (upN x) = true := inB_yes (by unfold upN; omega) (by unfold upN; omega)
  have hx : inB x = true := inB_yes h0 (by omega)
  rw [val_yes hx hu, err_yes hx hu]
  exact ⟨rfl, hb⟩
theorem up_no {x : Int} (w : World) (h : x < 0 ∨ 2147483640 < x) :
    Calls Try.prog 8 #[.int .i64 x] w fun r w' => r = .returned (.tuple #[.int .i64 0, .int .i64 100]) ∧ Below w.heap.size w w' := by
  refine (up x w).mono ?_
  rintro r w' ⟨rfl, hb⟩
  have hx : inB x = false ∨ inB (upN x) = false := by
    by_cases h1 : 0 ≤ x ∧ x ≤ 2147483647
    · exact .inr (inB_no (by unfold upN; omega))
    · exact .inl (inB_no h1)
  rw [val_no hx, err_no hx]
  exact ⟨rfl, hb⟩
theorem add_yes {a b : Int} (w : World) (h0 : 0 ≤ a) (h1 : 0 ≤ b) (h2 : a + b ≤ 2147483647) :
    Calls Try.prog 10 #[.int .i64 a, .int .i64 b] w fun r w' => r = .returned (.tuple #[.int .i64 (a + b), .int .i64 0]) ∧ Below w.heap.size w w' := by
  refine (add a b w).mono ?_
  rintro r w' ⟨rfl, hb⟩
  have hx : (inB a && inB b) = true := by rw [inB_yes h0 (by omega), inB_yes h1 (by omega)]; rfl
  have hu : inB (a + b) = true := inB_yes (by omega) h2
  rw [val_yes hx hu, err_yes hx hu]
  exact ⟨rfl, hb⟩
theorem add_no {a b : Int} (w : World) (h : ¬ (0 ≤ a ∧ a ≤ 2147483647) ∨ ¬ (0 ≤ b ∧ b ≤ 2147483647) ∨ 2147483647 < a + b) :
    Calls Try.prog 10 #[.int .i64 a, .int .i64 b] w fun r w' => r = .returned (.tuple #[.int .i64 0, .int .i64 100]) ∧ Below w.heap.size w w' := by
  refine (add a b w).mono ?_
  rintro r w' ⟨rfl, hb⟩
  have hx : (inB a && inB b) = false ∨ inB (a + b) = false := by
    rcases h with h | h | h
    · exact .inl (by rw [inB_no h]; rfl)
    · exact .inl (by rw [inB_no h, Bool.and_false])
    · exact .inr (inB_no (by omega))
  rw [val_no hx, err_no hx]
  exact ⟨rfl, hb⟩
theorem mul_yes {a b : Int} (w : World) (h0 : 0 ≤ a) (h1 : a ≤ 2147483647) (h2 : 0 ≤ b) (h3 : b ≤ 2147483647) (h4 : a * b ≤ 2147483647) :
    Calls Try.prog 12 #[.int .i64 a, .int .i64 b] w fun r w' => r = .returned (.tuple #[.int .i64 (a * b), .int .i64 0]) ∧ Below w.heap.size w w' := by
  refine (mul a b w).mono ?_
  rintro r w' ⟨rfl, hb⟩
  have hx : (inB a && inB b) = true := by rw [inB_yes h0 h1, inB_yes h2 h3]; rfl
  have hu : inB (a * b) = true := inB_yes (Int.mul_nonneg h0 h2) h4
  rw [val_yes hx hu, err_yes hx hu]
  exact ⟨rfl, hb⟩
theorem mul_no {a b : Int} (w : World) (h : ¬ (0 ≤ a ∧ a ≤ 2147483647) ∨ ¬ (0 ≤ b ∧ b ≤ 2147483647) ∨ 2147483647 < a * b) :
    Calls Try.prog 12 #[.int .i64 a, .int .i64 b] w fun r w' => r = .returned (.tuple #[.int .i64 0, .int .i64 100]) ∧ Below w.heap.size w w' := by
  refine (mul a b w).mono ?_
  rintro r w' ⟨rfl, hb⟩
  have hx : (inB a && inB b) = false ∨ inB (a * b) = false := by
    rcases h with h | h | h
    · exact .inl (by rw [inB_no h]; rfl)
    · exact .inl (by rw [inB_no h, Bool.and_false])
    · exact .inr (inB_no (by omega))
  rw [val_no hx, err_no hx]
  exact ⟨rfl, hb⟩
theorem upN_facts (x : Int) : upN x % 8 = 0 ∧ x ≤ upN x ∧ upN x < x + 8 := by unfold upN; omega
theorem upN_self {x : Int} (h : x % 8 = 0) : upN x = x := (upN_even h).symm

set_option maxHeartbeats 800000 in
theorem awake (w : World) :
    Calls Try.prog 15 #[] w fun r w' => r = .returned (.bool true) ∧ Below w.heap.size w w' := by
  go_enter Try.func15, Try.ntmps15
  go_wp2_with fail
  refine (up 9 _).mono ?_
  rintro e w1 ⟨rfl, b1⟩
  rw [show val (inB 9) (upN 9) = 16 from by decide, show err (inB 9) (upN 9) = 0 from by decide]
  go_wp2_with fail
  refine (add 2147483647 0 _).mono ?_
  rintro e w2 ⟨rfl, b2⟩
  rw [show val (inB 2147483647 && inB 0) (2147483647 + 0) = 2147483647 from by decide, show err (inB 2147483647 && inB 0) (2147483647 + 0) = 0 from by decide]
  go_wp2_with fail
  refine (add 2147483647 1 _).mono ?_
  rintro e w3 ⟨rfl, b3⟩
  rw [show err (inB 2147483647 && inB 1) (2147483647 + 1) = 100 from by decide]
  go_wp2_with fail
  refine (mul 65536 65536 _).mono ?_
  rintro e w4 ⟨rfl, b4⟩
  rw [show err (inB 65536 && inB 65536) (65536 * 65536) = 100 from by decide]
  go_wp2_with fail
  refine (up (-1) _).mono ?_
  rintro e w5 ⟨rfl, b5⟩
  rw [show err (inB (-1)) (upN (-1)) = 100 from by decide]
  go_wp2_with (go_at_call 14; refine (num _ _).mono ?_; rintro e w' ⟨rfl, rfl⟩)
  go_ret
  exact ⟨rfl, bel b1 (bel b2 (bel b3 (bel b4 b5)))⟩

end Go.Proofs.Ytjgkhpkligodkaa.Pad
