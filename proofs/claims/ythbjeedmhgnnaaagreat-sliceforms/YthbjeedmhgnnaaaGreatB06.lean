/-
  Several texts in one: Ends of an array: hasEnds, areNear, mayLack: contracts. · Ends near each other; which rows may lack: areNear, mayLack: contracts.
-/
import Derived.Test.YthbjeedmhgnnaaaGreatB05
namespace Go.Proofs.YthbjeedmhgnnaaaGreat.Arr
open Go.ChangeShapes Go.WideShapes Go.ChangeAt Go.RowKit
open Tree Val

theorem shorts_yes (s : ByteArray) (n : Nat) (hs : s.size ≤ 4096) (hn : n ≤ 4096) (h : all4 s n = true) (w : World) :
    Calls Tryz.prog 72 #[.string s, .int .i64 (n : Int)] w fun r w' => r = .returned (.tuple #[.slice (some ⟨w.heap.size, 0, none⟩) n n, .bool true]) ∧ Row w' w.heap.size n (endAt s) ∧ Below w.heap.size w w' := by
  refine (shorts s n hs hn w).mono ?_
  rintro e w' ⟨h1 | h1, b⟩
  · exact ⟨h1.2.1, h1.2.2, b⟩
  · rw [h] at h1; cases h1.1
theorem shorts_no (s : ByteArray) (n : Nat) (hs : s.size ≤ 4096) (hn : n ≤ 4096) (h : all4 s n = false) (w : World) :
    Calls Tryz.prog 72 #[.string s, .int .i64 (n : Int)] w fun r w' => r = .returned (.tuple #[.slice none 0 0, .bool false]) ∧ Below w.heap.size w w' := by
  refine (shorts s n hs hn w).mono ?_
  rintro e w' ⟨h1 | h1, b⟩
  · rw [h] at h1; cases h1.1
  · exact ⟨h1.2, b⟩
/-- How many rows an array has is told, and its texts are short. -/
structure Ok (a : Arr) : Prop where
  off : 0 ≤ a.offset
  len : 0 ≤ a.length
  rows : a.offset + a.length ≤ 64
  valid : a.valid.size ≤ 4096
  ends : a.ends.size ≤ 4096
  data : a.data.size ≤ 4096
def endsOk (a : Arr) (m : Int) : Bool := all4 a.ends (rowsOf a + 1) && (sortedE a.ends (rowsOf a) && decide ((endAt a.ends (rowsOf a) : Int) ≤ m))
set_option maxRecDepth 20000 in
set_option maxHeartbeats 1600000 in
theorem hasEnds (a : Arr) (o : Option Addr) (cap : Nat) (ho : Ok a) (m : Int) (w : World) :
    Calls Tryz.prog 65 #[a.val o cap, .int .i64 m] w fun r w' => r = .returned (.bool (endsOk a m)) ∧ Below w.heap.size w w' := by
  obtain ⟨w1, e1, x1, b1, z1⟩ := box7 w a o cap
  have X1 : Hid (Bx w1 w.heap.size a o cap) := x1
  have B1 : Hid (Below w.heap.size w w1) := b1
  have d0 := x1.c0
  have d1 := x1.c1
  have d2 := x1.c2
  have d3 := x1.c3
  have d4 := x1.c4
  have d5 := x1.c5
  have d6 := x1.c6
  clear x1 b1 z1
  have HO : Hid (Ok a) := ho
  have hrow : rowsOf a ≤ 64 := by have := ho.rows; have := ho.off; have := ho.len; unfold rowsOf; omega
  have HR : Hid (∀ v, Calls Tryz.prog 61 #[a.val o cap] v fun r w' => r = .returned (.int .i64 ((rowsOf a : Nat) : Int)) ∧ Below v.heap.size v w') := fun v => rows a o cap ho.off ho.len ho.rows v
  have HE : Hid (endsOk a m = (all4 a.ends (rowsOf a + 1) && (sortedE a.ends (rowsOf a) && decide ((endAt a.ends (rowsOf a) : Int) ≤ m)))) := rfl
  have hse := ho.ends
  unfold Arr.val at HR ⊢
  clear ho
  generalize endsOk a m = R at *
  cases h4 : all4 a.ends (rowsOf a + 1)
  · have HF : Hid (R = false) := by unfold Hid; rw [HE.out, h4]; rfl
    have HS : Hid (∀ v, Calls Tryz.prog 72 #[.string a.ends, .int .i64 ((rowsOf a : Nat) + 1 : Int)] v fun r w' => r = .returned (.tuple #[.slice none 0 0, .bool false]) ∧ Below v.heap.size v w') := fun v => shorts_no a.ends (rowsOf a + 1) hse (by omega) h4 v
    clear h4
    generalize rowsOf a = n at *
    have hw : IntKind.i64.wrap ((n : Int) + 1) = (n : Int) + 1 := by rw [IntKind.wrap_i64]; omega
    go_enter Tryz.func65, Tryz.ntmps65
    go_wp2_with fail
    go_region_with (first
      | (go_at_call 61; refine (HR.out _).mono ?_; rintro e w2 ⟨rfl, b2⟩; have B2 : Hid (Below w1.heap.size w1 w2) := bel2 (drewN_below _ 1) b2; have X2 := X1.out.later B2.out; have d4 := X2.c4; clear b2 X2)
      | (go_at_call 72; refine (HS.out _).mono ?_; rintro e w3 ⟨rfl, b3⟩))
    all_goals
      go_wp2
      go_ret
      exact ⟨ret_bool HF.out.symm, bel2 B1.out (bel2 B2.out b3)⟩
  · have HS : Hid (∀ v, Calls Tryz.prog 72 #[.string a.ends, .int .i64 ((rowsOf a : Nat) + 1 : Int)] v fun r w' => r = .returned (.tuple #[.slice (some ⟨v.heap.size, 0, none⟩) (rowsOf a + 1) (rowsOf a + 1), .bool true]) ∧ Row w' v.heap.size (rowsOf a + 1) (endAt a.ends) ∧ Below v.heap.size v w') := fun v => shorts_yes a.ends (rowsOf a + 1) hse (by omega) h4 v
    have HF : Hid (R = (sortedE a.ends (rowsOf a) && decide ((endAt a.ends (rowsOf a) : Int) ≤ m))) := by unfold Hid; rw [HE.out, h4]; rfl
    clear h4
    generalize rowsOf a = n at *
    have hw : IntKind.i64.wrap ((n : Int) + 1) = (n : Int) + 1 := by rw [IntKind.wrap_i64]; omega
    go_enter Tryz.func65, Tryz.ntmps65
    go_wp2_with fail
    go_region_with (first
      | (go_at_call 61; refine (HR.out _).mono ?_; rintro e w2 ⟨rfl, b2⟩; have B2 : Hid (Below w1.heap.size w1 w2) := bel2 (drewN_below _ 1) b2; have X2 := X1.out.later B2.out; have d4 := X2.c4; clear b2 X2)
      | (go_at_call 72; refine (HS.out _).mono ?_; rintro e w3 ⟨rfl, r3, b3⟩; have B3 : Hid (Below w1.heap.size w1 w3) := bel2 B2.out b3; have R3 : Hid (Row w3 w2.heap.size (n + 1) (endAt a.ends)) := r3; clear r3 b3))
    all_goals
      clear d0 d1 d2 d3 d4 d5 d6 e1
      generalize w2.heap.size = g at *
      go_wp2_with fail
      refine (isSorted g n (n + 1) a.ends (by omega) w3 R3).mono ?_
      rintro e w4 ⟨rfl, b4⟩
      have B4 : Hid (Below w1.heap.size w1 w4) := bel2 B3.out b4
      have X4 := X1.out.later B4.out
      have R4 := R3.out.later b4
      have d0 := X4.c0
      have d1 := X4.c1
      have d2 := X4.c2
      have d3 := X4.c3
      have d4 := X4.c4
      have d5 := X4.c5
      have d6 := X4.c6
      clear b4 X4
      cases hso : sortedE a.ends n
      · have HF2 : Hid (R = false) := by unfold Hid; rw [HF.out, hso]; rfl
        clear hso
        go_wp2
        go_ret
        exact ⟨ret_bool HF2.out.symm, bel2 B1.out B4.out⟩
      · have HF2 : Hid (R = decide ((endAt a.ends n : Int) ≤ m)) := by unfold Hid; rw [HF.out, hso]; rfl
        have R4' : Hid (Row w4 g (n + 1) (endAt a.ends)) := R4
        clear hso R4
        go_wp2_with fail
        refine (HR.out w4).mono ?_
        rintro e w5 ⟨rfl, b5⟩
        have c5 := cell_later b5 (R4'.out.cell n (by omega))
        have B5 : Hid (Below w1.heap.size w1 w5) := bel2 B4.out b5
        clear b5 d0 d1 d2 d3 d4 d5 d6
        generalize endAt a.ends n = q at *
        go_wp2
        go_ret
        exact ⟨ret_bool HF2.out.symm, bel2 B1.out B5.out⟩
end Go.Proofs.YthbjeedmhgnnaaaGreat.Arr
namespace Go.Proofs.YthbjeedmhgnnaaaGreat.Arr
open Go.ChangeShapes Go.WideShapes Go.ChangeAt Go.RowKit
open Tree Val

theorem near_all (s : ByteArray) (p L : Nat) : allTo (fun i => besideF 97 ((endAt s (p + i) : Nat) : Int) ((endAt s (p + (i + 1)) : Nat) : Int)) L = nearE s p L := by
  rw [Bool.eq_iff_iff, near_iff]
  constructor
  · intro h j hj
    have := allTo_at h hj
    simp only [besideF, if_pos] at this
    rw [show p + j + 1 = p + (j + 1) from by omega]
    simpa using this
  · intro h
    refine allTo_of fun i hi => ?_
    have := h i hi
    rw [show p + i + 1 = p + (i + 1) from by omega] at this
    simpa [besideF] using this
set_option maxRecDepth 20000 in
set_option maxHeartbeats 1600000 in
theorem areNear (a : Arr) (o : Option Addr) (cap : Nat) (ho : Ok a) (h4 : all4 a.ends (rowsOf a + 1) = true) (w : World) :
    Calls Tryz.prog 66 #[a.val o cap] w fun r w' => r = .returned (.bool (nearE a.ends a.offset.toNat a.length.toNat)) ∧ Below w.heap.size w w' := by
  obtain ⟨w1, e1, x1, b1, z1⟩ := box7 w a o cap
  have X1 : Hid (Bx w1 w.heap.size a o cap) := x1
  have B1 : Hid (Below w.heap.size w w1) := b1
  have d0 := x1.c0
  have d1 := x1.c1
  have d2 := x1.c2
  have d3 := x1.c3
  have d4 := x1.c4
  have d5 := x1.c5
  have d6 := x1.c6
  clear x1 b1 z1
  have hse := ho.ends
  have HR : Hid (∀ v, Calls Tryz.prog 61 #[a.val o cap] v fun r w' => r = .returned (.int .i64 ((rowsOf a : Nat) : Int)) ∧ Below v.heap.size v w') := fun v => rows a o cap ho.off ho.len ho.rows v
  have HS : Hid (∀ v, Calls Tryz.prog 72 #[.string a.ends, .int .i64 ((rowsOf a : Nat) + 1 : Int)] v fun r w' => r = .returned (.tuple #[.slice (some ⟨v.heap.size, 0, none⟩) (rowsOf a + 1) (rowsOf a + 1), .bool true]) ∧ Row w' v.heap.size (rowsOf a + 1) (endAt a.ends) ∧ Below v.heap.size v w') := fun v => shorts_yes a.ends (rowsOf a + 1) hse (by have := ho.rows; unfold rowsOf; omega) h4 v
  have HM : Hid (∀ i, i < rowsOf a + 1 → endAt a.ends i ≤ 2147483647) := fun i hi => ((has4_iff _ _).1 ((all4_iff _ _).1 h4 i hi)).2
  have HN : Hid (∀ p L, p = a.offset.toNat → L = a.length.toNat → allTo (fun i => besideF 97 ((endAt a.ends (p + i) : Nat) : Int) ((endAt a.ends (p + (i + 1)) : Nat) : Int)) L = nearE a.ends a.offset.toNat a.length.toNat) := fun p L h1 h2 => by rw [near_all, h1, h2]
  obtain ⟨p, hp⟩ := Int.eq_ofNat_of_zero_le ho.off
  obtain ⟨L, hL⟩ := Int.eq_ofNat_of_zero_le ho.len
  have hp1 : a.offset.toNat = p := by omega
  have hL1 : a.length.toNat = L := by omega
  have hn : rowsOf a = p + L := by unfold rowsOf; omega
  have hb : p + L ≤ 64 := by have := ho.rows; omega
  have HN2 := HN.out p L hp1.symm hL1.symm
  have HN3 : Hid (allTo (fun i => besideF 97 ((endAt a.ends (p + i) : Nat) : Int) ((endAt a.ends (p + (i + 1)) : Nat) : Int)) L = nearE a.ends a.offset.toNat a.length.toNat) := HN2
  have HP : Hid (a.offset = (p : Int)) := hp
  unfold Arr.val at HR ⊢
  clear ho h4 HN HN2 hp1 hL1 hp hL
  rw [hn] at HR HS HM
  clear hn
  generalize nearE a.ends a.offset.toNat a.length.toNat = R at *
  have hw : IntKind.i64.wrap (((p + L : Nat) : Int) + 1) = ((p + L : Nat) : Int) + 1 := by rw [IntKind.wrap_i64]; omega
  have hw2 : IntKind.i64.wrap ((p : Int) + (L : Int) + 1) = (p : Int) + (L : Int) + 1 := by rw [IntKind.wrap_i64]; omega
  go_enter Tryz.func66, Tryz.ntmps66
  go_wp2_with fail
  go_region_with (first
    | (go_at_call 61; refine (HR.out _).mono ?_; rintro e w2 ⟨rfl, b2⟩; have B2 : Hid (Below w1.heap.size w1 w2) := bel2 (drewN_below _ 1) b2; have X2 := X1.out.later B2.out; have d4 := X2.c4; clear b2 X2)
    | (go_at_call 72; refine (HS.out _).mono ?_; rintro e w3 ⟨rfl, r3, b3⟩; have B3 : Hid (Below w1.heap.size w1 w3) := bel2 B2.out b3; have R3 : Hid (Row w3 w2.heap.size (p + L + 1) (endAt a.ends)) := r3; clear r3 b3))
  all_goals
    have X3 := X1.out.later B3.out
    clear d0 d1 d2 d3 d4 d5 d6 e1 hw hw2
    have d1 := X3.c1
    rw [HP.out] at d1
    clear X3
    generalize w2.heap.size = g at *
    have k1 : p ≠ p + L + 1 := by omega
    have k2 : ¬ p + L + 1 = p := by omega
    have k3 : p + L + 1 - p = L + 1 := by omega
    have k4 : (p : Int) ≤ (p : Int) + (L : Int) + 1 := by omega
    go_wp2_with fail
    refine (beside 97 (.inl rfl) g p (L + 1) L (fun i => ((endAt a.ends (p + i) : Nat) : Int)) (by omega) (Nat.le_refl _) (by omega) (fun k hk => .inl (by
      have h1 := HM.out (p + k) (by omega)
      have h2 := HM.out (p + (k + 1)) (by omega)
      rw [IntKind.wrap_i64]
      omega)) w3 (fun j hj => R3.out.cell (p + j) (by omega))).mono ?_
    rintro e w4 ⟨rfl, b4⟩
    rw [HN3.out]
    go_wp2
    go_ret
    exact ⟨rfl, bel2 B1.out (bel2 B3.out b4)⟩
/-- May rows lack? -/
def lackB (null : Bool) (a : Arr) : Bool := decide (a.valid.size = 0) || null && decide ((rowsOf a + 7) / 8 ≤ a.valid.size)
set_option maxRecDepth 20000 in
set_option maxHeartbeats 1600000 in
theorem mayLack (n : Nd) (a : Arr) (o : Option Addr) (cap : Nat) (ho : Ok a) (w : World) :
    Calls Tryz.prog 31 #[.agg #[.int .i64 n.kind, .int .i64 n.par, .bool n.null], a.val o cap] w fun r w' => r = .returned (.bool (lackB n.null a)) ∧ Below w.heap.size w w' := by
  obtain ⟨w0, e0, c0, c1, c2, b0⟩ := box3n w n
  obtain ⟨w1, e1, x1, b1, z1⟩ := box7 w0 a o cap
  have X1 : Hid (Bx w1 w0.heap.size a o cap) := x1
  have B1 : Hid (Below w.heap.size w w1) := bel2 b0 b1
  have n2 := cell_later b1 c2
  have d0 := x1.c0
  have d1 := x1.c1
  have d2 := x1.c2
  have d3 := x1.c3
  have d4 := x1.c4
  have d5 := x1.c5
  have d6 := x1.c6
  have HF : Hid (lackB n.null a = (decide (a.valid.size = 0) || n.null && decide ((rowsOf a + 7) / 8 ≤ a.valid.size))) := rfl
  have hrow : rowsOf a ≤ 64 := by have := ho.rows; have := ho.off; have := ho.len; unfold rowsOf; omega
  have HR : Hid (∀ v, Calls Tryz.prog 61 #[a.val o cap] v fun r w' => r = .returned (.int .i64 ((rowsOf a : Nat) : Int)) ∧ Below v.heap.size v w') := fun v => rows a o cap ho.off ho.len ho.rows v
  have HS : Hid (∀ v, Calls Tryz.prog 60 #[.string a.valid, .int .i64 ((rowsOf a : Nat) : Int)] v fun r w' => r = .returned (.bool (bitsB a.valid (rowsOf a))) ∧ Below v.heap.size v w') := fun v => hasBits a.valid (rowsOf a) ho.valid hrow v
  unfold Arr.val at HR ⊢
  clear x1 b1 z1 c0 c1 c2 b0 ho
  generalize lackB n.null a = R at *
  by_cases hv : a.valid.size = 0
  · have HF2 : Hid (R = true) := by unfold Hid; rw [HF.out, decide_eq_true hv, Bool.true_or]
    have hvv := empty_of hv
    clear HS HR HF X1
    generalize a.valid = v at *
    subst hvv
    clear hv
    go_enter Tryz.func31, Tryz.ntmps31
    go_wp2_with fail
    go_quiet (fail)
    go_wp2
    go_ret
    exact ⟨ret_bool HF2.out.symm, bel2 B1.out (drewN_below _ _)⟩
  · have hne := ne_empty hv
    have HF1 : Hid (R = (n.null && bitsB a.valid (rowsOf a))) := by unfold Hid; rw [HF.out, decide_eq_false hv, Bool.false_or]; rfl
    clear hv HF
    cases hnu : n.null
    · have HF2 : Hid (R = false) := by unfold Hid; rw [HF1.out, hnu]; rfl
      rw [hnu] at n2 e0
      clear hnu HF1
      go_enter Tryz.func31, Tryz.ntmps31
      go_wp2_with fail
      go_quiet (fail)
      go_wp2
      go_ret
      exact ⟨ret_bool HF2.out.symm, bel2 B1.out (drewN_below _ _)⟩
    · have HF2 : Hid (R = bitsB a.valid (rowsOf a)) := by unfold Hid; rw [HF1.out, hnu]; rfl
      rw [hnu] at n2 e0
      clear hnu HF1
      generalize bitsB a.valid (rowsOf a) = Q at *
      generalize rowsOf a = m at *
      go_enter Tryz.func31, Tryz.ntmps31
      go_wp2_with fail
      go_region_with (first
        | (go_at_call 61; refine (HR.out _).mono ?_; rintro e w2 ⟨rfl, b2⟩; have B2 : Hid (Below w1.heap.size w1 w2) := bel2 (drewN_below _ 1) b2; have X2 := X1.out.later B2.out; have d3 := X2.c3; clear b2 X2)
        | (go_at_call 60; refine (HS.out _).mono ?_; rintro e w3 ⟨rfl, b3⟩))
      all_goals
        go_wp2
        go_ret
        exact ⟨ret_bool HF2.out.symm, bel2 B1.out (bel2 B2.out b3)⟩
end Go.Proofs.YthbjeedmhgnnaaaGreat.Arr
