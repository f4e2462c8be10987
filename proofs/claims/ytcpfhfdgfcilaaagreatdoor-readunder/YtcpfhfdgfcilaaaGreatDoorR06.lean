/-
  Several texts in one: Ends of an array: hasEnds, areNear, mayLack: contracts. · Ends near each other; which rows may lack: areNear, mayLack: contracts. · Kids of an array: how they lie; the closures that ask each of them: contracts. · Each kid of an array asked, with its node: every.Pair over nodes and arrays, below: contracts. · Whether a plain array may be: isPlain: contract. · Whether a plain array may be: isPlain: contract.
-/
import Derived.Test.YtcpfhfdgfcilaaaGreatDoorR05
import Derived.Test.YtcpfhfdgfcilaaaGreatDoorR02
namespace Go.Proofs.YtcpfhfdgfcilaaaGreatDoor.Arr
open Go.ChangeShapes Go.WideShapes Go.ChangeAt Go.RowKit
open Tree Val

theorem shorts_yes (s : ByteArray) (n : Nat) (hs : s.size ≤ 4096) (hn : n ≤ 4096) (h : all4 s n = true) (w : World) :
    Calls Tryz.prog 134 #[.string s, .int .i64 (n : Int)] w fun r w' => r = .returned (.tuple #[.slice (some ⟨w.heap.size, 0, none⟩) n n, .bool true]) ∧ Row w' w.heap.size n (endAt s) ∧ Below w.heap.size w w' := by
  refine (shorts s n hs hn w).mono ?_
  rintro e w' ⟨h1 | h1, b⟩
  · exact ⟨h1.2.1, h1.2.2, b⟩
  · rw [h] at h1; cases h1.1
theorem shorts_no (s : ByteArray) (n : Nat) (hs : s.size ≤ 4096) (hn : n ≤ 4096) (h : all4 s n = false) (w : World) :
    Calls Tryz.prog 134 #[.string s, .int .i64 (n : Int)] w fun r w' => r = .returned (.tuple #[.slice none 0 0, .bool false]) ∧ Below w.heap.size w w' := by
  refine (shorts s n hs hn w).mono ?_
  rintro e w' ⟨h1 | h1, b⟩
  · rw [h] at h1; cases h1.1
  · exact ⟨h1.2, b⟩
/-- How many rows an array has is told, and its texts are short. -/
structure Ok (a : Arr) : Prop where
  off : 0 ≤ a.offset
  len : 0 ≤ a.length
  rows : a.offset + a.length ≤ 64
  valid : a.valid.size ≤ 4096
  ends : a.ends.size ≤ 4096
  data : a.data.size ≤ 4096
def endsOk (a : Arr) (m : Int) : Bool := all4 a.ends (rowsOf a + 1) && (sortedE a.ends (rowsOf a) && decide ((endAt a.ends (rowsOf a) : Int) ≤ m))
set_option maxRecDepth 20000 in
set_option maxHeartbeats 1600000 in
theorem hasEnds (a : Arr) (o : Option Addr) (cap : Nat) (ho : Ok a) (m : Int) (w : World) :
    Calls Tryz.prog 128 #[a.val o cap, .int .i64 m] w fun r w' => r = .returned (.bool (endsOk a m)) ∧ Below w.heap.size w w' := by
  obtain ⟨w1, e1, x1, b1, z1⟩ := box7 w a o cap
  have X1 : Hid (Bx w1 w.heap.size a o cap) := x1
  have B1 : Hid (Below w.heap.size w w1) := b1
  have d0 := x1.c0
  have d1 := x1.c1
  have d2 := x1.c2
  have d3 := x1.c3
  have d4 := x1.c4
  have d5 := x1.c5
  have d6 := x1.c6
  clear x1 b1 z1
  have HO : Hid (Ok a) := ho
  have hrow : rowsOf a ≤ 64 := by have := ho.rows; have := ho.off; have := ho.len; unfold rowsOf; omega
  have HR : Hid (∀ v, Calls Tryz.prog 124 #[a.val o cap] v fun r w' => r = .returned (.int .i64 ((rowsOf a : Nat) : Int)) ∧ Below v.heap.size v w') := fun v => rows a o cap ho.off ho.len ho.rows v
  have HE : Hid (endsOk a m = (all4 a.ends (rowsOf a + 1) && (sortedE a.ends (rowsOf a) && decide ((endAt a.ends (rowsOf a) : Int) ≤ m)))) := rfl
  have hse := ho.ends
  unfold Arr.val at HR ⊢
  clear ho
  generalize endsOk a m = R at *
  cases h4 : all4 a.ends (rowsOf a + 1)
  · have HF : Hid (R = false) := by unfold Hid; rw [HE.out, h4]; rfl
    have HS : Hid (∀ v, Calls Tryz.prog 134 #[.string a.ends, .int .i64 ((rowsOf a : Nat) + 1 : Int)] v fun r w' => r = .returned (.tuple #[.slice none 0 0, .bool false]) ∧ Below v.heap.size v w') := fun v => shorts_no a.ends (rowsOf a + 1) hse (by omega) h4 v
    clear h4
    generalize rowsOf a = n at *
    have hw : IntKind.i64.wrap ((n : Int) + 1) = (n : Int) + 1 := by rw [IntKind.wrap_i64]; omega
    go_enter Tryz.func128, Tryz.ntmps128
    go_wp2_with fail
    go_region_with (first
      | (go_at_call 124; refine (HR.out _).mono ?_; rintro e w2 ⟨rfl, b2⟩; have B2 : Hid (Below w1.heap.size w1 w2) := bel2 (drewN_below _ 1) b2; have X2 := X1.out.later B2.out; have d4 := X2.c4; clear b2 X2)
      | (go_at_call 134; refine (HS.out _).mono ?_; rintro e w3 ⟨rfl, b3⟩))
    all_goals
      go_wp2
      go_ret
      exact ⟨ret_bool HF.out.symm, bel2 B1.out (bel2 B2.out b3)⟩
  · have HS : Hid (∀ v, Calls Tryz.prog 134 #[.string a.ends, .int .i64 ((rowsOf a : Nat) + 1 : Int)] v fun r w' => r = .returned (.tuple #[.slice (some ⟨v.heap.size, 0, none⟩) (rowsOf a + 1) (rowsOf a + 1), .bool true]) ∧ Row w' v.heap.size (rowsOf a + 1) (endAt a.ends) ∧ Below v.heap.size v w') := fun v => shorts_yes a.ends (rowsOf a + 1) hse (by omega) h4 v
    have HF : Hid (R = (sortedE a.ends (rowsOf a) && decide ((endAt a.ends (rowsOf a) : Int) ≤ m))) := by unfold Hid; rw [HE.out, h4]; rfl
    clear h4
    generalize rowsOf a = n at *
    have hw : IntKind.i64.wrap ((n : Int) + 1) = (n : Int) + 1 := by rw [IntKind.wrap_i64]; omega
    go_enter Tryz.func128, Tryz.ntmps128
    go_wp2_with fail
    go_region_with (first
      | (go_at_call 124; refine (HR.out _).mono ?_; rintro e w2 ⟨rfl, b2⟩; have B2 : Hid (Below w1.heap.size w1 w2) := bel2 (drewN_below _ 1) b2; have X2 := X1.out.later B2.out; have d4 := X2.c4; clear b2 X2)
      | (go_at_call 134; refine (HS.out _).mono ?_; rintro e w3 ⟨rfl, r3, b3⟩; have B3 : Hid (Below w1.heap.size w1 w3) := bel2 B2.out b3; have R3 : Hid (Row w3 w2.heap.size (n + 1) (endAt a.ends)) := r3; clear r3 b3))
    all_goals
      clear d0 d1 d2 d3 d4 d5 d6 e1
      generalize w2.heap.size = g at *
      go_wp2_with fail
      refine (isSorted g n (n + 1) a.ends (by omega) w3 R3).mono ?_
      rintro e w4 ⟨rfl, b4⟩
      have B4 : Hid (Below w1.heap.size w1 w4) := bel2 B3.out b4
      have X4 := X1.out.later B4.out
      have R4 := R3.out.later b4
      have d0 := X4.c0
      have d1 := X4.c1
      have d2 := X4.c2
      have d3 := X4.c3
      have d4 := X4.c4
      have d5 := X4.c5
      have d6 := X4.c6
      clear b4 X4
      cases hso : sortedE a.ends n
      · have HF2 : Hid (R = false) := by unfold Hid; rw [HF.out, hso]; rfl
        clear hso
        go_wp2
        go_ret
        exact ⟨ret_bool HF2.out.symm, bel2 B1.out B4.out⟩
      · have HF2 : Hid (R = decide ((endAt a.ends n : Int) ≤ m)) := by unfold Hid; rw [HF.out, hso]; rfl
        have R4' : Hid (Row w4 g (n + 1) (endAt a.ends)) := R4
        clear hso R4
        go_wp2_with fail
        refine (HR.out w4).mono ?_
        rintro e w5 ⟨rfl, b5⟩
        have c5 := cell_later b5 (R4'.out.cell n (by omega))
        have B5 : Hid (Below w1.heap.size w1 w5) := bel2 B4.out b5
        clear b5 d0 d1 d2 d3 d4 d5 d6
        generalize endAt a.ends n = q at *
        go_wp2
        go_ret
        exact ⟨ret_bool HF2.out.symm, bel2 B1.out B5.out⟩
end Go.Proofs.YtcpfhfdgfcilaaaGreatDoor.Arr
namespace Go.Proofs.YtcpfhfdgfcilaaaGreatDoor.Arr
open Go.ChangeShapes Go.WideShapes Go.ChangeAt Go.RowKit
open Tree Val

theorem near_all (s : ByteArray) (p L : Nat) : allTo (fun i => besideF 175 ((endAt s (p + i) : Nat) : Int) ((endAt s (p + (i + 1)) : Nat) : Int)) L = nearE s p L := by
  rw [Bool.eq_iff_iff, near_iff]
  constructor
  · intro h j hj
    have := allTo_at h hj
    simp only [besideF, if_pos] at this
    rw [show p + j + 1 = p + (j + 1) from by omega]
    simpa using this
  · intro h
    refine allTo_of fun i hi => ?_
    have := h i hi
    rw [show p + i + 1 = p + (i + 1) from by omega] at this
    simpa [besideF] using this
set_option maxRecDepth 20000 in
set_option maxHeartbeats 1600000 in
theorem areNear (a : Arr) (o : Option Addr) (cap : Nat) (ho : Ok a) (h4 : all4 a.ends (rowsOf a + 1) = true) (w : World) :
    Calls Tryz.prog 129 #[a.val o cap] w fun r w' => r = .returned (.bool (nearE a.ends a.offset.toNat a.length.toNat)) ∧ Below w.heap.size w w' := by
  obtain ⟨w1, e1, x1, b1, z1⟩ := box7 w a o cap
  have X1 : Hid (Bx w1 w.heap.size a o cap) := x1
  have B1 : Hid (Below w.heap.size w w1) := b1
  have d0 := x1.c0
  have d1 := x1.c1
  have d2 := x1.c2
  have d3 := x1.c3
  have d4 := x1.c4
  have d5 := x1.c5
  have d6 := x1.c6
  clear x1 b1 z1
  have hse := ho.ends
  have HR : Hid (∀ v, Calls Tryz.prog 124 #[a.val o cap] v fun r w' => r = .returned (.int .i64 ((rowsOf a : Nat) : Int)) ∧ Below v.heap.size v w') := fun v => rows a o cap ho.off ho.len ho.rows v
  have HS : Hid (∀ v, Calls Tryz.prog 134 #[.string a.ends, .int .i64 ((rowsOf a : Nat) + 1 : Int)] v fun r w' => r = .returned (.tuple #[.slice (some ⟨v.heap.size, 0, none⟩) (rowsOf a + 1) (rowsOf a + 1), .bool true]) ∧ Row w' v.heap.size (rowsOf a + 1) (endAt a.ends) ∧ Below v.heap.size v w') := fun v => shorts_yes a.ends (rowsOf a + 1) hse (by have := ho.rows; unfold rowsOf; omega) h4 v
  have HM : Hid (∀ i, i < rowsOf a + 1 → endAt a.ends i ≤ 2147483647) := fun i hi => ((has4_iff _ _).1 ((all4_iff _ _).1 h4 i hi)).2
  have HN : Hid (∀ p L, p = a.offset.toNat → L = a.length.toNat → allTo (fun i => besideF 175 ((endAt a.ends (p + i) : Nat) : Int) ((endAt a.ends (p + (i + 1)) : Nat) : Int)) L = nearE a.ends a.offset.toNat a.length.toNat) := fun p L h1 h2 => by rw [near_all, h1, h2]
  obtain ⟨p, hp⟩ := Int.eq_ofNat_of_zero_le ho.off
  obtain ⟨L, hL⟩ := Int.eq_ofNat_of_zero_le ho.len
  have hp1 : a.offset.toNat = p := by omega
  have hL1 : a.length.toNat = L := by omega
  have hn : rowsOf a = p + L := by unfold rowsOf; omega
  have hb : p + L ≤ 64 := by have := ho.rows; omega
  have HN2 := HN.out p L hp1.symm hL1.symm
  have HN3 : Hid (allTo (fun i => besideF 175 ((endAt a.ends (p + i) : Nat) : Int) ((endAt a.ends (p + (i + 1)) : Nat) : Int)) L = nearE a.ends a.offset.toNat a.length.toNat) := HN2
  have HP : Hid (a.offset = (p : Int)) := hp
  unfold Arr.val at HR ⊢
  clear ho h4 HN HN2 hp1 hL1 hp hL
  rw [hn] at HR HS HM
  clear hn
  generalize nearE a.ends a.offset.toNat a.length.toNat = R at *
  have hw : IntKind.i64.wrap (((p + L : Nat) : Int) + 1) = ((p + L : Nat) : Int) + 1 := by rw [IntKind.wrap_i64]; omega
  have hw2 : IntKind.i64.wrap ((p : Int) + (L : Int) + 1) = (p : Int) + (L : Int) + 1 := by rw [IntKind.wrap_i64]; omega
  go_enter Tryz.func129, Tryz.ntmps129
  go_wp2_with fail
  go_region_with (first
    | (go_at_call 124; refine (HR.out _).mono ?_; rintro e w2 ⟨rfl, b2⟩; have B2 : Hid (Below w1.heap.size w1 w2) := bel2 (drewN_below _ 1) b2; have X2 := X1.out.later B2.out; have d4 := X2.c4; clear b2 X2)
    | (go_at_call 134; refine (HS.out _).mono ?_; rintro e w3 ⟨rfl, r3, b3⟩; have B3 : Hid (Below w1.heap.size w1 w3) := bel2 B2.out b3; have R3 : Hid (Row w3 w2.heap.size (p + L + 1) (endAt a.ends)) := r3; clear r3 b3))
  all_goals
    have X3 := X1.out.later B3.out
    clear d0 d1 d2 d3 d4 d5 d6 e1 hw hw2
    have d1 := X3.c1
    rw [HP.out] at d1
    clear X3
    generalize w2.heap.size = g at *
    have k1 : p ≠ p + L + 1 := by omega
    have k2 : ¬ p + L + 1 = p := by omega
    have k3 : p + L + 1 - p = L + 1 := by omega
    have k4 : (p : Int) ≤ (p : Int) + (L : Int) + 1 := by omega
    go_wp2_with fail
    refine (beside 175 (.inl rfl) g p (L + 1) L (fun i => ((endAt a.ends (p + i) : Nat) : Int)) (by omega) (Nat.le_refl _) (by omega) (fun k hk => .inl (by
      have h1 := HM.out (p + k) (by omega)
      have h2 := HM.out (p + (k + 1)) (by omega)
      rw [IntKind.wrap_i64]
      omega)) w3 (fun j hj => R3.out.cell (p + j) (by omega))).mono ?_
    rintro e w4 ⟨rfl, b4⟩
    rw [HN3.out]
    go_wp2
    go_ret
    exact ⟨rfl, bel2 B1.out (bel2 B3.out b4)⟩
/-- May rows lack? -/
def lackB (null : Bool) (a : Arr) : Bool := decide (a.valid.size = 0) || null && decide ((rowsOf a + 7) / 8 ≤ a.valid.size)
set_option maxRecDepth 20000 in
set_option maxHeartbeats 1600000 in
theorem mayLack (n : Nd) (a : Arr) (o : Option Addr) (cap : Nat) (ho : Ok a) (w : World) :
    Calls Tryz.prog 72 #[.agg #[.int .i64 n.kind, .int .i64 n.par, .bool n.null], a.val o cap] w fun r w' => r = .returned (.bool (lackB n.null a)) ∧ Below w.heap.size w w' := by
  obtain ⟨w0, e0, c0, c1, c2, b0⟩ := box3n w n
  obtain ⟨w1, e1, x1, b1, z1⟩ := box7 w0 a o cap
  have X1 : Hid (Bx w1 w0.heap.size a o cap) := x1
  have B1 : Hid (Below w.heap.size w w1) := bel2 b0 b1
  have n2 := cell_later b1 c2
  have d0 := x1.c0
  have d1 := x1.c1
  have d2 := x1.c2
  have d3 := x1.c3
  have d4 := x1.c4
  have d5 := x1.c5
  have d6 := x1.c6
  have HF : Hid (lackB n.null a = (decide (a.valid.size = 0) || n.null && decide ((rowsOf a + 7) / 8 ≤ a.valid.size))) := rfl
  have hrow : rowsOf a ≤ 64 := by have := ho.rows; have := ho.off; have := ho.len; unfold rowsOf; omega
  have HR : Hid (∀ v, Calls Tryz.prog 124 #[a.val o cap] v fun r w' => r = .returned (.int .i64 ((rowsOf a : Nat) : Int)) ∧ Below v.heap.size v w') := fun v => rows a o cap ho.off ho.len ho.rows v
  have HS : Hid (∀ v, Calls Tryz.prog 123 #[.string a.valid, .int .i64 ((rowsOf a : Nat) : Int)] v fun r w' => r = .returned (.bool (bitsB a.valid (rowsOf a))) ∧ Below v.heap.size v w') := fun v => hasBits a.valid (rowsOf a) ho.valid hrow v
  unfold Arr.val at HR ⊢
  clear x1 b1 z1 c0 c1 c2 b0 ho
  generalize lackB n.null a = R at *
  by_cases hv : a.valid.size = 0
  · have HF2 : Hid (R = true) := by unfold Hid; rw [HF.out, decide_eq_true hv, Bool.true_or]
    have hvv := empty_of hv
    clear HS HR HF X1
    generalize a.valid = v at *
    subst hvv
    clear hv
    go_enter Tryz.func72, Tryz.ntmps72
    go_wp2_with fail
    go_quiet (fail)
    go_wp2
    go_ret
    exact ⟨ret_bool HF2.out.symm, bel2 B1.out (drewN_below _ _)⟩
  · have hne := ne_empty hv
    have HF1 : Hid (R = (n.null && bitsB a.valid (rowsOf a))) := by unfold Hid; rw [HF.out, decide_eq_false hv, Bool.false_or]; rfl
    clear hv HF
    cases hnu : n.null
    · have HF2 : Hid (R = false) := by unfold Hid; rw [HF1.out, hnu]; rfl
      rw [hnu] at n2 e0
      clear hnu HF1
      go_enter Tryz.func72, Tryz.ntmps72
      go_wp2_with fail
      go_quiet (fail)
      go_wp2
      go_ret
      exact ⟨ret_bool HF2.out.symm, bel2 B1.out (drewN_below _ _)⟩
    · have HF2 : Hid (R = bitsB a.valid (rowsOf a)) := by unfold Hid; rw [HF1.out, hnu]; rfl
      rw [hnu] at n2 e0
      clear hnu HF1
      generalize bitsB a.valid (rowsOf a) = Q at *
      generalize rowsOf a = m at *
      go_enter Tryz.func72, Tryz.ntmps72
      go_wp2_with fail
      go_region_with (first
        | (go_at_call 124; refine (HR.out _).mono ?_; rintro e w2 ⟨rfl, b2⟩; have B2 : Hid (Below w1.heap.size w1 w2) := bel2 (drewN_below _ 1) b2; have X2 := X1.out.later B2.out; have d3 := X2.c3; clear b2 X2)
        | (go_at_call 123; refine (HS.out _).mono ?_; rintro e w3 ⟨rfl, b3⟩))
      all_goals
        go_wp2
        go_ret
        exact ⟨ret_bool HF2.out.symm, bel2 B1.out (bel2 B2.out b3)⟩
end Go.Proofs.YtcpfhfdgfcilaaaGreatDoor.Arr
namespace Go.Proofs.YtcpfhfdgfcilaaaGreatDoor.Arr
open Go.ChangeShapes Go.WideShapes Go.ChangeAt Go.RowKit
open Tree Val

/-- An array lies at an address. -/
structure Kid (w : World) (y : Addr) (k : Arr) (o : Option Addr) (cap : Nat) : Prop where
  k0 : w.cell? y = some (.int .i64 k.layout)
  k1 : w.cell? { block := y.block, off := y.off + 1 } = some (.int .i64 k.offset)
  k2 : w.cell? { block := y.block, off := y.off + 2 } = some (.int .i64 k.length)
  k3 : w.cell? { block := y.block, off := y.off + 3 } = some (.string k.valid)
  k4 : w.cell? { block := y.block, off := y.off + 4 } = some (.string k.ends)
  k5 : w.cell? { block := y.block, off := y.off + 5 } = some (.string k.data)
  k6 : w.cell? { block := y.block, off := y.off + 6 } = some (.slice o k.kids.length cap)
theorem Kid.later {w w' : World} {y : Addr} {k : Arr} {o : Option Addr} {cap : Nat} (h : Kid w y k o cap) (hb : Below w.heap.size w w') : Kid w' y k o cap :=
  ⟨cell_later hb h.k0, cell_later hb h.k1, cell_later hb h.k2, cell_later hb h.k3, cell_later hb h.k4, cell_later hb h.k5, cell_later hb h.k6⟩
theorem HoldsF.kid {B bytes : Nat} {w : World} {f : Nat} {a : Arr} {o : Option Addr} {cap : Nat} (h : HoldsF B bytes w (f + 1) (a.cells o cap) a) {i : Nat} (hi : i < a.kids.length) :
    ∃ x o' cap', o = some x ∧ Kid w (x.add (i * 7)) (kidAt a i) o' cap' ∧ HoldsF B bytes w f ((kidAt a i).cells o' cap') (kidAt a i) := by
  obtain ⟨o2, cap2, e, _, _, _, _, h6⟩ := h
  have eo : o = o2 := by
    unfold Arr.cells at e
    simp only [List.cons.injEq, Value.slice.injEq, and_true, true_and] at e
    exact e.1
  subst eo
  rcases h6 with ⟨_, c, _⟩ | ⟨x, rfl, hx⟩
  · rw [c] at hi; cases hi
  · obtain ⟨cs, h7, hc, hh⟩ := hx i hi
    cases f with
    | zero => cases hh
    | succ f =>
      have hk := hh
      obtain ⟨o3, cap3, e3, _⟩ := hk
      have hk : kidAt a i = a.kids.getD i nil := rfl
      rw [← hk] at hh e3
      rw [e3] at hc hh
      have at' : ∀ j v, j < 7 → ((kidAt a i).cells o3 cap3)[j]? = some v → w.cell? { block := (x.add (i * 7)).block, off := (x.add (i * 7)).off + j } = some v := fun j v hj hv => add_at (i * 7) j ((hc j hj).trans hv)
      refine ⟨x, o3, cap3, rfl, ⟨?_, at' 1 _ (by omega) rfl, at' 2 _ (by omega) rfl, at' 3 _ (by omega) rfl, at' 4 _ (by omega) rfl, at' 5 _ (by omega) rfl, at' 6 _ (by omega) rfl⟩, hh⟩
      have := hc 0 (by omega)
      rw [Nat.add_zero] at this
      exact this
theorem HoldsF.ok' {B bytes : Nat} {w : World} {f : Nat} {a : Arr} {o : Option Addr} {cap : Nat} (h : HoldsF B bytes w f (a.cells o cap) a) : a.ok B ∧ a.kids.length ≤ maxLen ∧ ∃ g, f = g + 1 := by
  cases f with
  | zero => cases h
  | succ f =>
    obtain ⟨o2, cap2, e, h2, h3, _, h5, _⟩ := h
    exact ⟨h2, Nat.le_trans h3 h5, f, rfl⟩
/-- The answer, of any node. -/
def mayZ (ns : List Nd) (at' : Int) (f : Nat) (a : Arr) : Bool := hasB ns at' && mayF ns f at'.toNat a
/-- What May answers of an array no deeper than told. -/
def MayC (B bytes f : Nat) : Prop := ∀ (ns : List Nd) (oT : Option Addr) (capT : Nat) (at' : Int) (a : Arr) (o : Option Addr) (cap : Nat) (w : World), IsT w oT ns → HoldsF B bytes w f (a.cells o cap) a →
  Calls Tryz.prog 44 #[.agg #[.slice oT ns.length capT], .int .i64 at', a.val o cap] w fun r w' => r = .returned (.bool (mayZ ns at' f a)) ∧ Below w.heap.size w w'
/-- What is held of a kid. -/
def holdB (F : Nat) (a k : Arr) : Bool := if F = 130 then endsOk a k.length else decide ((rowsOf a : Int) ≤ k.length)
set_option maxHeartbeats 800000 in
theorem hold52 (bA : Nat) (a : Arr) (oA : Option Addr) (capA : Nat) (ho : Ok a) (k : Arr) (o : Option Addr) (cap : Nat) (w : World) (hx : Bx w bA a oA capA) :
    Calls Tryz.prog 130 #[k.val o cap, .pointer (some ⟨bA, 0, none⟩)] w fun r w' => r = .returned (.bool (holdB 130 a k)) ∧ Below w.heap.size w w' := by
  obtain ⟨w1, e1, x1, b1, z1⟩ := box7 w k o cap
  have B1 : Hid (Below w.heap.size w w1) := b1
  have X1 := hx.later b1
  have d0 := X1.c0
  have d1 := X1.c1
  have d2 := X1.c2
  have d3 := X1.c3
  have d4 := X1.c4
  have d5 := X1.c5
  have d6 := X1.c6
  have q2 := x1.c2
  have HC : Hid (∀ v, Calls Tryz.prog 128 #[a.val oA capA, .int .i64 k.length] v fun r w' => r = .returned (.bool (holdB 130 a k)) ∧ Below v.heap.size v w') := fun v => hasEnds a oA capA ho k.length v
  unfold Arr.val at HC ⊢
  clear x1 X1 b1 z1 ho hx
  go_enter Tryz.func130, Tryz.ntmps130
  go_wp2_with fail
  refine (HC.out w1).mono ?_
  rintro e w2 ⟨rfl, b2⟩
  go_wp2
  go_ret
  exact ⟨rfl, bel2 B1.out b2⟩
set_option maxRecDepth 20000 in
set_option maxHeartbeats 800000 in
theorem hold53 (bA : Nat) (a : Arr) (oA : Option Addr) (capA : Nat) (ho : Ok a) (k : Arr) (o : Option Addr) (cap : Nat) (w : World) (hx : Bx w bA a oA capA) :
    Calls Tryz.prog 131 #[k.val o cap, .pointer (some ⟨bA, 0, none⟩)] w fun r w' => r = .returned (.bool (holdB 131 a k)) ∧ Below w.heap.size w w' := by
  obtain ⟨w1, e1, x1, b1, z1⟩ := box7 w k o cap
  have B1 : Hid (Below w.heap.size w w1) := b1
  have X1 := hx.later b1
  have HX1 : Hid (Bx w1 w.heap.size k o cap) := x1
  have hne := BW.some w1
  have d0 : ∀ s : BW w1, s.w.cell? ⟨bA, 0, none⟩ = some (.int .i64 a.layout) := fun s => cell_later s.ok X1.c0
  have d1 : ∀ s : BW w1, s.w.cell? ⟨bA, 1, none⟩ = some (.int .i64 a.offset) := fun s => cell_later s.ok X1.c1
  have d2 : ∀ s : BW w1, s.w.cell? ⟨bA, 2, none⟩ = some (.int .i64 a.length) := fun s => cell_later s.ok X1.c2
  have d3 : ∀ s : BW w1, s.w.cell? ⟨bA, 3, none⟩ = some (.string a.valid) := fun s => cell_later s.ok X1.c3
  have d4 : ∀ s : BW w1, s.w.cell? ⟨bA, 4, none⟩ = some (.string a.ends) := fun s => cell_later s.ok X1.c4
  have d5 : ∀ s : BW w1, s.w.cell? ⟨bA, 5, none⟩ = some (.string a.data) := fun s => cell_later s.ok X1.c5
  have d6 : ∀ s : BW w1, s.w.cell? ⟨bA, 6, none⟩ = some (.slice oA a.kids.length capA) := fun s => cell_later s.ok X1.c6
  have q2 : ∀ s : BW w1, s.w.cell? ⟨w.heap.size, 2, none⟩ = some (.int .i64 k.length) := fun s => cell_later s.ok x1.c2
  have HR : Hid (∀ v, Calls Tryz.prog 124 #[a.val oA capA] v fun r w' => r = .returned (.int .i64 ((rowsOf a : Nat) : Int)) ∧ Below v.heap.size v w') := fun v => rows a oA capA ho.off ho.len ho.rows v
  have HF : Hid (holdB 131 a k = decide ((rowsOf a : Int) ≤ k.length)) := rfl
  unfold Arr.val at HR ⊢
  clear x1 X1 b1 z1 ho hx
  generalize holdB 131 a k = R at *
  generalize rowsOf a = n at *
  go_enter Tryz.func131, Tryz.ntmps131
  go_wp2_with fail
  refine region_in (C := fun w' => ∃ s : BW w1, w' = s.w) (by kernel_rfl) (by kernel_rfl) ⟨⟨w1.drew, (Below.refl _ _).drew⟩, rfl⟩ ?_
  repeat (go_big_quiet_step (first
    | (go_at_call 124; rename_i s; refine (HR.out s.w).mono ?_; rintro e wx ⟨rfl, hbx⟩; exact ⟨rfl, ⟨wx, bel2 s.ok hbx⟩, rfl⟩)))
  refine wpQuiet_nil ?_
  intro _ hw'
  obtain ⟨s, hw''⟩ := hw'
  subst hw''
  have HE : Hid (Below w.heap.size w s.w) := bel2 B1.out s.ok
  clear hne
  go_wp2
  go_ret
  exact ⟨ret_bool HF.out.symm, HE.out⟩
end Go.Proofs.YtcpfhfdgfcilaaaGreatDoor.Arr
namespace Go.Proofs.YtcpfhfdgfcilaaaGreatDoor.Arr
open Go.ChangeShapes Go.WideShapes Go.ChangeAt Go.RowKit
open Tree Val

/-- What a kid is asked with: what is held of it, and its own answer. -/
structure Env (w : World) (F bA bh bt : Nat) (a : Arr) (oA : Option Addr) (capA : Nat) (ns : List Nd) (oT : Option Addr) (capT : Nat) : Prop where
  fn : w.cell? ⟨bh, 0, none⟩ = some (.func (.func F) #[] #[.pointer (some ⟨bA, 0, none⟩)])
  ty : w.cell? ⟨bt, 0, none⟩ = some (.slice oT ns.length capT)
  bx : Bx w bA a oA capA
  is : IsT w oT ns
theorem Env.later {w w' : World} {F bA bh bt : Nat} {a : Arr} {oA : Option Addr} {capA : Nat} {ns : List Nd} {oT : Option Addr} {capT : Nat} (h : Env w F bA bh bt a oA capA ns oT capT) (hb : Below w.heap.size w w') : Env w' F bA bh bt a oA capA ns oT capT :=
  ⟨cell_later hb h.fn, cell_later hb h.ty, h.bx.later hb, h.is.later hb⟩
theorem holdC (F : Nat) (hF : F = 130 ∨ F = 131) (bA : Nat) (a : Arr) (oA : Option Addr) (capA : Nat) (ho : Ok a) (k : Arr) (o : Option Addr) (cap : Nat) (w : World) (hx : Bx w bA a oA capA) :
    Calls Tryz.prog F #[k.val o cap, .pointer (some ⟨bA, 0, none⟩)] w fun r w' => r = .returned (.bool (holdB F a k)) ∧ Below w.heap.size w w' := by
  rcases hF with rfl | rfl
  · exact hold52 bA a oA capA ho k o cap w hx
  · exact hold53 bA a oA capA ho k o cap w hx
set_option maxRecDepth 20000 in
set_option maxHeartbeats 1600000 in
theorem askKid (B bytes f : Nat) (ih : Hid (MayC B bytes f)) (F : Nat) (hF : F = 130 ∨ F = 131) (bA bh bt : Nat) (a : Arr) (oA : Option Addr) (capA : Nat) (ho : Hid (Ok a)) (ns : List Nd) (oT : Option Addr) (capT : Nat) (at' : Int) (k : Arr) (o : Option Addr) (cap : Nat) (w : World)
    (he : Hid (Env w F bA bh bt a oA capA ns oT capT)) (hk : Hid (HoldsF B bytes w f (k.cells o cap) k)) :
    Calls Tryz.prog 127 #[.int .i64 at', k.val o cap, .pointer (some ⟨bh, 0, none⟩), .pointer (some ⟨bt, 0, none⟩)] w fun r w' => r = .returned (.bool (holdB F a k && mayZ ns at' f k)) ∧ Below w.heap.size w w' := by
  obtain ⟨w1, e1, x1, b1, z1⟩ := box7 w k o cap
  have B1 : Hid (Below w.heap.size w w1) := b1
  have X1 : Hid (Bx w1 w.heap.size k o cap) := x1
  have HE1 : Hid (Env w1 F bA bh bt a oA capA ns oT capT) := he.out.later b1
  have HK1 : Hid (HoldsF B bytes w1 f (k.cells o cap) k) := hk.out.later b1
  have d0 := x1.c0
  have d1 := x1.c1
  have d2 := x1.c2
  have d3 := x1.c3
  have d4 := x1.c4
  have d5 := x1.c5
  have d6 := x1.c6
  have m1 := HE1.out.fn
  have HC : Hid (∀ v, Below w1.heap.size w1 v → Calls Tryz.prog F #[k.val o cap, .pointer (some ⟨bA, 0, none⟩)] v fun r w' => r = .returned (.bool (holdB F a k)) ∧ Below v.heap.size v w') := fun v hv => holdC F hF bA a oA capA ho.out k o cap v (HE1.out.bx.later hv)
  have HM : Hid (∀ v, Below w1.heap.size w1 v → Calls Tryz.prog 44 #[.agg #[.slice oT ns.length capT], .int .i64 at', k.val o cap] v fun r w' => r = .returned (.bool (mayZ ns at' f k)) ∧ Below v.heap.size v w') := fun v hv => ih.out ns oT capT at' k o cap v (HE1.out.is.later hv) (HK1.out.later hv)
  unfold Arr.val at HC HM ⊢
  clear x1 b1 z1 he hk ih
  generalize mayZ ns at' f k = Q at *
  cases hR : holdB F a k
  · have HR : Hid (holdB F a k = false) := hR
    rw [hR] at HC
    clear hR
    rcases hF with rfl | rfl
    all_goals
      go_enter Tryz.func127, Tryz.ntmps127
      go_wp2_with fail
      refine (HC.out w1 (Below.refl _ _)).mono ?_
      rintro e w2 ⟨rfl, b2⟩
      go_wp2
      go_ret
      exact ⟨rfl, bel2 B1.out b2⟩
  · rw [hR] at HC
    clear hR
    rcases hF with rfl | rfl
    all_goals
      go_enter Tryz.func127, Tryz.ntmps127
      go_wp2_with fail
      refine (HC.out w1 (Below.refl _ _)).mono ?_
      rintro e w2 ⟨rfl, b2⟩
      have X2 := X1.out.later b2
      have B2 : Hid (Below w1.heap.size w1 w2) := b2
      clear d0 d1 d2 d3 d4 d5 d6 m1 b2 e1
      have d0 := X2.c0
      have d1 := X2.c1
      have d2 := X2.c2
      have d3 := X2.c3
      have d4 := X2.c4
      have d5 := X2.c5
      have d6 := X2.c6
      have m2 := cell_later B2.out HE1.out.ty
      clear X2
      go_wp2_with fail
      refine (HM.out w2 B2.out).mono ?_
      rintro e w3 ⟨rfl, b3⟩
      go_wp2
      go_ret
      exact ⟨rfl, bel2 B1.out (bel2 B2.out b3)⟩
/-- Kids of an array in memory, so deep. -/
structure KidsIn (B bytes f : Nat) (w : World) (x : Addr) (a : Arr) : Prop where
  all : ∀ i, i < a.kids.length → ∃ o cap, Kid w (x.add (i * 7)) (kidAt a i) o cap ∧ HoldsF B bytes w f ((kidAt a i).cells o cap) (kidAt a i)
theorem KidsIn.later {B bytes f : Nat} {w w' : World} {x : Addr} {a : Arr} (h : KidsIn B bytes f w x a) (hb : Below w.heap.size w w') : KidsIn B bytes f w' x a :=
  ⟨fun i hi => by obtain ⟨o, cap, h1, h2⟩ := h.all i hi; exact ⟨o, cap, h1.later hb, h2.later hb⟩⟩
theorem kidsIn {B bytes : Nat} {w : World} {f : Nat} {a : Arr} {o : Option Addr} {cap : Nat} (h : HoldsF B bytes w (f + 1) (a.cells o cap) a) (h1 : 1 ≤ a.kids.length) : ∃ x, o = some x ∧ KidsIn B bytes f w x a := by
  obtain ⟨x, _, _, rfl, _, _⟩ := h.kid (i := 0) (by omega)
  refine ⟨x, rfl, ⟨fun i hi => ?_⟩⟩
  obtain ⟨x', o', cap', e, h1, h2⟩ := h.kid hi
  injection e with e
  subst e
  exact ⟨o', cap', h1, h2⟩
set_option maxRecDepth 20000 in
set_option maxHeartbeats 1600000 in
theorem stepKA (B bytes f : Nat) (ih : Hid (MayC B bytes f)) (F : Nat) (hF : F = 130 ∨ F = 131) (bA bh bt b5 b4 : Nat) (a : Arr) (oA : Option Addr) (capA : Nat) (ho : Hid (Ok a)) (ns : List Nd) (oT : Option Addr) (capT : Nat) (at' : Int) (i : Nat) (x : Addr) (cap : Nat) (hi : i < a.kids.length) (w : World)
    (h5 : w.cell? ⟨b5, 0, none⟩ = some (.func (.func 127) #[] #[.pointer (some ⟨bh, 0, none⟩), .pointer (some ⟨bt, 0, none⟩)])) (h4 : w.cell? ⟨b4, 0, none⟩ = some (.slice (some x) a.kids.length cap))
    (he : Hid (Env w F bA bh bt a oA capA ns oT capT)) (hk : Hid (KidsIn B bytes f w x a)) :
    Calls Tryz.prog 173 #[.int .i64 (i : Int), .int .i64 at', .pointer (some ⟨b5, 0, none⟩), .pointer (some ⟨b4, 0, none⟩)] w fun r w' => r = .returned (.bool (holdB F a (kidAt a i) && mayZ ns at' f (kidAt a i))) ∧ Below w.heap.size w w' := by
  obtain ⟨o', cap', hkid, hh⟩ := hk.out.all i hi
  have d0 := hkid.k0
  have d1 := hkid.k1
  have d2 := hkid.k2
  have d3 := hkid.k3
  have d4 := hkid.k4
  have d5 := hkid.k5
  have d6 := hkid.k6
  have j0 : (0 : Int) ≤ (i : Int) := Int.natCast_nonneg _
  have j1 : (i : Int) < (a.kids.length : Int) := by omega
  have HC : Hid (∀ v, Below w.heap.size w v → Calls Tryz.prog 127 #[.int .i64 at', (kidAt a i).val o' cap', .pointer (some ⟨bh, 0, none⟩), .pointer (some ⟨bt, 0, none⟩)] v fun r w' => r = .returned (.bool (holdB F a (kidAt a i) && mayZ ns at' f (kidAt a i))) ∧ Below v.heap.size v w') := fun v hv =>
    askKid B bytes f ih F hF bA bh bt a oA capA ho ns oT capT at' (kidAt a i) o' cap' v (he.out.later hv) (hh.later hv)
  unfold Arr.val at HC
  clear hkid hh he hk ih ho
  generalize (holdB F a (kidAt a i) && mayZ ns at' f (kidAt a i)) = R at *
  generalize kidAt a i = k at *
  clear hF
  go_enter Tryz.func173, Tryz.ntmps173
  go_wp2_with fail
  go_region_with (go_at_call 127; refine (HC.out _ (drewN_below _ 1)).mono ?_; rintro e w2 ⟨rfl, b2⟩)
  all_goals
    go_wp2
    go_ret
    exact ⟨rfl, bel2 (drewN_below _ 1) b2⟩
/-- Each kid with its node. -/
def pairB (F : Nat) (ns : List Nd) (f : Nat) (ks : List Nat) (a : Arr) : Bool := decide (ks.length = a.kids.length) && allTo (fun i => holdB F a (kidAt a i) && mayZ ns ((ks.getD i 0 : Nat) : Int) f (kidAt a i)) ks.length
set_option maxRecDepth 20000 in
set_option maxHeartbeats 1600000 in
theorem pairKA (B bytes f : Nat) (ih : Hid (MayC B bytes f)) (F : Nat) (hF : F = 130 ∨ F = 131) (bA bh bt : Nat) (a : Arr) (oA : Option Addr) (capA : Nat) (ho : Hid (Ok a)) (ns : List Nd) (oT : Option Addr) (capT : Nat) (g c : Nat) (ks : List Nat) (h1 : 1 ≤ ks.length) (h8 : ks.length ≤ 8) (w : World)
    (hr : Hid (IntsAt w g 0 ks.length (fun i => ((ks.getD i 0 : Nat) : Int)))) (he : Hid (Env w F bA bh bt a oA capA ns oT capT)) (hk : Hid (HoldsF B bytes w (f + 1) (a.cells oA capA) a)) :
    Calls Tryz.prog 126 #[.slice (some ⟨g, 0, none⟩) ks.length c, .slice oA a.kids.length capA, .func (.func 127) #[] #[.pointer (some ⟨bh, 0, none⟩), .pointer (some ⟨bt, 0, none⟩)]] w fun r w' => r = .returned (.bool (pairB F ns f ks a)) ∧ Below w.heap.size w w' := by
  obtain ⟨w1, e1, s1, c1, b1⟩ := boxed w (.slice oA a.kids.length capA) 25
  obtain ⟨w2, e2, s2, c2, b2⟩ := boxed w1 (.func (.func 127) #[] #[.pointer (some ⟨bh, 0, none⟩), .pointer (some ⟨bt, 0, none⟩)]) 139
  have c3 := cell_later b2 c1
  have B2 : Hid (Below w.heap.size w w2) := bel2 b1 b2
  have HP : Hid (pairB F ns f ks a = (decide (ks.length = a.kids.length) && allTo (fun i => holdB F a (kidAt a i) && mayZ ns ((ks.getD i 0 : Nat) : Int) f (kidAt a i)) ks.length)) := rfl
  generalize pairB F ns f ks a = R at *
  by_cases hq : ks.length = a.kids.length
  · obtain ⟨x, rfl, hx⟩ := kidsIn hk.out (by omega)
    have HC2 : Hid (w2.cell? ⟨w1.heap.size, 0, none⟩ = some (.func (.func 127) #[] #[.pointer (some ⟨bh, 0, none⟩), .pointer (some ⟨bt, 0, none⟩)])) := c2
    have HC3 : Hid (w2.cell? ⟨w.heap.size, 0, none⟩ = some (.slice (some x) a.kids.length capA)) := c3
    have HX : Hid (KidsIn B bytes f w x a) := hx
    have HCC : Hid (Calls Tryz.prog 172 #[.slice (some ⟨g, 0, none⟩) ks.length c, .func (.func 173) #[] #[.pointer (some ⟨w1.heap.size, 0, none⟩), .pointer (some ⟨w.heap.size, 0, none⟩)]] w2 fun r w' => r = .returned (.bool R) ∧ Below w2.heap.size w2 w') := by
      rw [HP.out, decide_eq_true hq, Bool.true_and]
      refine oneI 173 (.inl rfl) w1.heap.size w.heap.size _ g 0 c ks.length _ (by omega) w2 (hr.out.later B2.out) (fun k v hkk hv => ?_)
      have hB := bel2 B2.out hv
      exact stepKA B bytes f ih F hF bA bh bt w1.heap.size w.heap.size a (some x) capA ho ns oT capT _ k x capA (by omega) v (cell_later hv HC2.out) (cell_later hv HC3.out) (he.out.later hB) (HX.out.later hB)
    have hq2 : (((ks.length : Nat) : Int) == ((a.kids.length : Nat) : Int)) = true := by rw [hq]; exact beq_self_eq_true _
    clear s1 s2 c1 b1 b2 c2 hx hq hr he hk ih HX HC2 HC3 HP
    go_enter Tryz.func126, Tryz.ntmps126
    go_wp2_with fail
    refine HCC.out.mono ?_
    rintro e w3 ⟨rfl, b3⟩
    go_wp2
    go_ret
    exact ⟨rfl, bel2 B2.out b3⟩
  · have HF : Hid (R = false) := by unfold Hid; rw [HP.out, decide_eq_false hq, Bool.false_and]
    have hq2 : (((ks.length : Nat) : Int) == ((a.kids.length : Nat) : Int)) = false := by rw [beq_eq_false_iff_ne]; omega
    clear s1 s2 c1 b1 b2 hr he hk ih HP hq
    go_enter Tryz.func126, Tryz.ntmps126
    go_wp2
    go_ret
    exact ⟨ret_bool HF.out.symm, B2.out⟩
set_option maxRecDepth 20000 in
set_option maxHeartbeats 1600000 in
theorem belowC (B bytes f : Nat) (ih : Hid (MayC B bytes f)) (F : Nat) (hF : F = 130 ∨ F = 131) (bK bA bt : Nat) (a : Arr) (oA : Option Addr) (capA : Nat) (ho : Hid (Ok a)) (ns : List Nd) (oT : Option Addr) (capT : Nat) (g c : Nat) (ks : List Nat) (h1 : 1 ≤ ks.length) (h8 : ks.length ≤ 8) (w : World)
    (hr : Hid (IntsAt w g 0 ks.length (fun i => ((ks.getD i 0 : Nat) : Int)))) (hK : w.cell? ⟨bK, 0, none⟩ = some (.slice (some ⟨g, 0, none⟩) ks.length c)) (ht : Hid (w.cell? ⟨bt, 0, none⟩ = some (.slice oT ns.length capT))) (hx : Hid (Bx w bA a oA capA)) (hT : Hid (IsT w oT ns)) (hk : Hid (HoldsF B bytes w (f + 1) (a.cells oA capA) a)) :
    Calls Tryz.prog 125 #[.func (.func F) #[] #[.pointer (some ⟨bA, 0, none⟩)], .pointer (some ⟨bK, 0, none⟩), .pointer (some ⟨bA, 0, none⟩), .pointer (some ⟨bt, 0, none⟩)] w fun r w' => r = .returned (.bool (pairB F ns f ks a)) ∧ Below w.heap.size w w' := by
  obtain ⟨w1, e1, s1, c1, b1⟩ := boxed w (.func (.func F) #[] #[.pointer (some ⟨bA, 0, none⟩)]) 95
  have B1 : Hid (Below w.heap.size w w1) := b1
  have X1 := hx.out.later b1
  have d6 := X1.c6
  have hK1 := cell_later b1 hK
  have HE : Hid (Env w1 F bA w.heap.size bt a oA capA ns oT capT) := ⟨c1, cell_later b1 ht.out, X1, hT.out.later b1⟩
  have HCC : Hid (Calls Tryz.prog 126 #[.slice (some ⟨g, 0, none⟩) ks.length c, .slice oA a.kids.length capA, .func (.func 127) #[] #[.pointer (some ⟨w.heap.size, 0, none⟩), .pointer (some ⟨bt, 0, none⟩)]] w1 fun r w' => r = .returned (.bool (pairB F ns f ks a)) ∧ Below w1.heap.size w1 w') :=
    pairKA B bytes f ih F hF bA w.heap.size bt a oA capA ho ns oT capT g c ks h1 h8 w1 (hr.out.later b1) HE (hk.out.later b1)
  clear X1 c1 b1 hr ht hx hT hk ih HE hK
  rcases hF with rfl | rfl
  all_goals
    go_enter Tryz.func125, Tryz.ntmps125
    go_wp2_with fail
    refine HCC.out.mono ?_
    rintro e w3 ⟨rfl, b3⟩
    go_wp2
    go_ret
    exact ⟨rfl, bel2 B1.out b3⟩
end Go.Proofs.YtcpfhfdgfcilaaaGreatDoor.Arr
namespace Go.Proofs.YtcpfhfdgfcilaaaGreatDoor.Arr
open Go.ChangeShapes Go.WideShapes Go.ChangeAt Go.RowKit
open Tree Val

theorem kids_lt {ns : List Nd} (a : Nat) : ∀ j, j < (kids ns a).length → (kids ns a).getD j 0 < ns.length := by
  have key : ∀ k, ∀ u ∈ kidsTo ns a k, u < k := by
    intro k
    induction k with
    | zero => intro u hu; cases hu
    | succ k ih =>
      intro u hu
      rw [kidsTo] at hu
      split at hu
      · rcases List.mem_append.1 hu with c | c
        · have := ih u c; omega
        · rw [List.mem_singleton] at c; omega
      · have := ih u hu; omega
  intro j hj
  refine key ns.length _ ?_
  rw [List.getD_eq_getElem?_getD, List.getElem?_eq_getElem hj]
  exact List.getElem_mem hj
theorem mayZ_kid {ns : List Nd} (hm : may ns = true) {n : Nat} (hn : n < ns.length) (f : Nat) (a : Arr) : mayZ ns (n : Int) f a = mayF ns f n a := by
  unfold mayZ hasB
  rw [hm, decide_eq_true (by omega)]
  simp
theorem rows_off {a : Arr} (ho : Ok a) : rowsOf a = a.offset.toNat + a.length.toNat ∧ a.offset = ((a.offset.toNat : Nat) : Int) ∧ a.length = ((a.length.toNat : Nat) : Int) := by
  have := ho.off
  have := ho.len
  unfold rowsOf
  omega
theorem plain_list {ns : List Nd} (hm : may ns = true) {f n : Nat} {a : Arr} (hk : (nd ns n).kind = 3) (h1 : (kids ns n).length = 1) : plainB (mayF ns f) ns n a = (decide (a.data.size = 0) && pairB 130 ns f (kids ns n) a) := by
  unfold plainB pairB
  rw [if_neg (by omega), if_neg (by omega), if_neg (by omega), if_pos hk, h1]
  show _ = (_ && (_ && (true && (holdB 130 a (kidAt a 0) && mayZ ns (((kids ns n).getD 0 0 : Nat) : Int) f (kidAt a 0)))))
  rw [mayZ_kid hm (kids_lt n 0 (by omega)), ends_list]
  unfold holdB
  rw [if_pos rfl]
  unfold endsOk
  rw [show decide (a.kids.length = 1) = decide (1 = a.kids.length) from by simp [eq_comm]]
  show (_ && _ && mayF ns f ((kids ns n).getD 0 0) (kidAt a 0) && _) = _
  simp only [Bool.true_and]
  cases decide (a.data.size = 0) <;> cases decide (1 = a.kids.length) <;> cases mayF ns f ((kids ns n).getD 0 0) (kidAt a 0) <;> simp
theorem plain_struct {ns : List Nd} (hm : may ns = true) {f n : Nat} {a : Arr} (hk : (nd ns n).kind = 4) : plainB (mayF ns f) ns n a = (decide (a.ends.size = 0) && decide (a.data.size = 0) && pairB 131 ns f (kids ns n) a) := by
  unfold plainB pairB
  rw [if_neg (by omega), if_neg (by omega), if_neg (by omega), if_neg (by omega)]
  have e : ((List.range (kids ns n).length).all fun i => mayF ns f (kAt ns n i) (kidAt a i) && decide ((rowsOf a : Int) ≤ (kidAt a i).length)) = allTo (fun i => holdB 131 a (kidAt a i) && mayZ ns (((kids ns n).getD i 0 : Nat) : Int) f (kidAt a i)) (kids ns n).length := by
    rw [Bool.eq_iff_iff, List.all_eq_true]
    constructor
    · intro h
      refine allTo_of fun i hi => ?_
      have := h i (List.mem_range.2 hi)
      rw [mayZ_kid hm (kids_lt n i hi), Bool.and_comm]
      exact this
    · intro h i hi
      have hi := List.mem_range.1 hi
      have := allTo_at h hi
      rw [mayZ_kid hm (kids_lt n i hi), Bool.and_comm] at this
      exact this
  rw [e]
  have e2 : decide (a.kids.length = (kids ns n).length) = decide ((kids ns n).length = a.kids.length) := by simp [eq_comm]
  rw [e2]
  cases decide (a.data.size = 0) <;> cases decide (a.ends.size = 0) <;> simp
theorem plain_bytes {ns : List Nd} {f n : Nat} {a : Arr} (ho : Ok a) (hk : (nd ns n).kind = 2) : plainB (mayF ns f) ns n a = (decide (a.kids.length = 0) && (endsOk a (a.data.size : Int) && nearE a.ends a.offset.toNat a.length.toNat)) := by
  unfold plainB
  rw [if_neg (by omega), if_neg (by omega), if_pos hk]
  obtain ⟨h1, h2, h3⟩ := rows_off ho
  have e := ends_bytes a.ends (rowsOf a) a.offset.toNat (by omega) (a.data.size : Int)
  rw [← h2] at e
  rw [e, show rowsOf a - a.offset.toNat = a.length.toNat from by omega]
  unfold endsOk
  cases a.kids <;> simp
theorem plain_bool {ns : List Nd} {f n : Nat} {a : Arr} (hk : (nd ns n).kind = 1) : plainB (mayF ns f) ns n a = (decide (a.ends.size = 0) && (decide (a.kids.length = 0) && bitsB a.data (rowsOf a))) := by
  unfold plainB
  rw [if_neg (by omega), if_pos hk]
  unfold bare bitsB
  cases a.kids <;> simp
theorem plain_int {ns : List Nd} {f n : Nat} {a : Arr} (hk : (nd ns n).kind = 0) : plainB (mayF ns f) ns n a = (decide (a.ends.size = 0) && (decide (a.kids.length = 0) && decide (8 * (rowsOf a : Int) ≤ (a.data.size : Int)))) := by
  unfold plainB
  rw [if_pos hk]
  unfold bare
  have : decide (8 * rowsOf a ≤ a.data.size) = decide (8 * (rowsOf a : Int) ≤ (a.data.size : Int)) := by
    rw [Bool.eq_iff_iff, decide_eq_true_eq, decide_eq_true_eq]
    omega
  rw [this]
  cases a.kids <;> simp
end Go.Proofs.YtcpfhfdgfcilaaaGreatDoor.Arr
namespace Go.Proofs.YtcpfhfdgfcilaaaGreatDoor.Arr
open Go.ChangeShapes Go.WideShapes Go.ChangeAt Go.RowKit
open Tree Val

/-- The three boxes that isPlain opens with. -/
structure Bxs (w w3 : World) (oT oK : Option Addr) (nT capT nK cK : Nat) (a : Arr) (o : Option Addr) (cap : Nat) (b1 b2 : Nat) : Prop where
  below : Below w.heap.size w w3
  ty : w3.cell? ⟨w.heap.size, 0, none⟩ = some (.slice oT nT capT)
  ks : w3.cell? ⟨b1, 0, none⟩ = some (.slice oK nK cK)
  bx : Bx w3 b2 a o cap
theorem boxs (w : World) (oT oK : Option Addr) (nT capT nK cK : Nat) (a : Arr) (o : Option Addr) (cap : Nat) :
    ∃ w1 w2 w3, w.alloc (.cells #[.slice oT nT capT] 24) = w1 ∧ w1.alloc (.cells #[.slice oK nK cK] 38) = w2 ∧ w2.alloc (.cells #[.int .i64 a.layout, .int .i64 a.offset, .int .i64 a.length, .string a.valid, .string a.ends, .string a.data, .slice o a.kids.length cap] 27) = w3 ∧ Bxs w w3 oT oK nT capT nK cK a o cap w1.heap.size w2.heap.size := by
  obtain ⟨w1, e1, s1, c1, b1⟩ := boxed w (.slice oT nT capT) 24
  obtain ⟨w2, e2, s2, c2, b2⟩ := boxed w1 (.slice oK nK cK) 38
  obtain ⟨w3, e3, x3, b3, z3⟩ := box7 w2 a o cap
  exact ⟨w1, w2, w3, e1, e2, e3, ⟨bel2 b1 (bel2 b2 b3), cell_later b3 (cell_later b2 c1), cell_later b3 c2, x3⟩⟩
/-- The cells of an array in a box, in every world in which it still stands. -/
structure Cells (w3 : World) (b : Nat) (a : Arr) (o : Option Addr) (cap : Nat) : Prop where
  d0 : ∀ s : BW w3, s.w.cell? ⟨b, 0, none⟩ = some (.int .i64 a.layout)
  d1 : ∀ s : BW w3, s.w.cell? ⟨b, 1, none⟩ = some (.int .i64 a.offset)
  d2 : ∀ s : BW w3, s.w.cell? ⟨b, 2, none⟩ = some (.int .i64 a.length)
  d3 : ∀ s : BW w3, s.w.cell? ⟨b, 3, none⟩ = some (.string a.valid)
  d4 : ∀ s : BW w3, s.w.cell? ⟨b, 4, none⟩ = some (.string a.ends)
  d5 : ∀ s : BW w3, s.w.cell? ⟨b, 5, none⟩ = some (.string a.data)
  d6 : ∀ s : BW w3, s.w.cell? ⟨b, 6, none⟩ = some (.slice o a.kids.length cap)
theorem Bx.cells {w3 : World} {b : Nat} {a : Arr} {o : Option Addr} {cap : Nat} (h : Bx w3 b a o cap) : Cells w3 b a o cap :=
  ⟨fun s => (h.later s.ok).c0, fun s => (h.later s.ok).c1, fun s => (h.later s.ok).c2, fun s => (h.later s.ok).c3, fun s => (h.later s.ok).c4, fun s => (h.later s.ok).c5, fun s => (h.later s.ok).c6⟩
set_option maxRecDepth 20000 in
set_option maxHeartbeats 3200000 in
theorem plainInt (ns : List Nd) (oT : Option Addr) (capT n : Nat) (hn : n < ns.length) (oK : Option Addr) (nK cK : Nat) (a : Arr) (o : Option Addr) (cap : Nat) (ho : Ok a) (hk : (nd ns n).kind = 0) (f : Nat) (w : World) (ht : IsT w oT ns) :
    Calls Tryz.prog 73 #[.agg #[.slice oT ns.length capT], .int .i64 (n : Int), .slice oK nK cK, a.val o cap] w fun r w' => r = .returned (.bool (plainB (mayF ns f) ns n a)) ∧ Below w.heap.size w w' := by
  obtain ⟨w1, w2, w3, e1, e2, e3, hb⟩ := boxs w oT oK ns.length capT nK cK a o cap
  obtain ⟨x, rfl, hl⟩ := ht.some (by omega)
  have B3 : Hid (Below w.heap.size w w3) := hb.below
  have HP : Hid (plainB (mayF ns f) ns n a = (decide (a.ends.size = 0) && (decide (a.kids.length = 0) && decide (8 * (rowsOf a : Int) ≤ (a.data.size : Int))))) := plain_int hk
  have hl3 := hl.later hb.below
  have c0 := hl3.kind' n hn
  rw [hk] at c0
  have cT := hb.ty
  have C := hb.bx.cells
  have HR : Hid (∀ v, Calls Tryz.prog 124 #[a.val o cap] v fun r w' => r = .returned (.int .i64 ((rowsOf a : Nat) : Int)) ∧ Below v.heap.size v w') := fun v => rows a o cap ho.off ho.len ho.rows v
  have hne := BW.some w3
  have d0 := C.d0
  have d1 := C.d1
  have d2 := C.d2
  have d3 := C.d3
  have d4 := C.d4
  have d5 := C.d5
  have d6 := C.d6
  have hrow : rowsOf a ≤ 64 := by have := ho.rows; have := ho.off; have := ho.len; unfold rowsOf; omega
  have hw : IntKind.i64.wrap (8 * ((rowsOf a : Nat) : Int)) = 8 * ((rowsOf a : Nat) : Int) := by rw [IntKind.wrap_i64]; omega
  have j0 : (0 : Int) ≤ (n : Int) := Int.natCast_nonneg _
  have j1 : (n : Int) < (ns.length : Int) := by omega
  unfold Arr.val at HR ⊢
  clear C hb ho hl hl3 ht hrow
  generalize plainB (mayF ns f) ns n a = R at *
  generalize rowsOf a = m at *
  by_cases he : a.ends.size = 0
  · have hev := empty_of he
    rw [decide_eq_true he, Bool.true_and] at HP
    clear he
    generalize a.ends = v at *
    subst hev
    generalize a.kids.length = q at *
    by_cases hq : q = 0
    · rw [decide_eq_true hq, Bool.true_and] at HP
      subst hq
      go_enter Tryz.func73, Tryz.ntmps73
      go_wp2_with fail
      refine region_in (C := fun w' => ∃ s : BW w3, w' = s.w) (by kernel_rfl) (by kernel_rfl) ⟨⟨w3.drew, (Below.refl _ _).drew⟩, rfl⟩ ?_
      repeat (go_big_quiet_step (first
        | (go_at_call 124; rename_i s; refine (HR.out s.w).mono ?_; rintro e wx ⟨rfl, hbx⟩; exact ⟨rfl, ⟨wx, bel2 s.ok hbx⟩, rfl⟩)))
      refine wpQuiet_nil ?_
      intro _ hw'
      obtain ⟨s, hw''⟩ := hw'
      subst hw''
      have HE : Hid (Below w.heap.size w s.w) := bel2 B3.out s.ok
      clear hne d0 d1 d2 d3 d4 d5 d6
      go_wp2
      go_ret
      exact ⟨ret_bool HP.out.symm, HE.out⟩
    · rw [decide_eq_false hq, Bool.false_and] at HP
      have hq2 : (((q : Nat) : Int) == 0) = false := by rw [beq_eq_false_iff_ne]; omega
      go_enter Tryz.func73, Tryz.ntmps73
      go_wp2_with fail
      refine region_in (C := fun w' => ∃ s : BW w3, w' = s.w) (by kernel_rfl) (by kernel_rfl) ⟨⟨w3.drew, (Below.refl _ _).drew⟩, rfl⟩ ?_
      repeat (go_big_quiet_step (first
        | (go_at_call 124; rename_i s; refine (HR.out s.w).mono ?_; rintro e wx ⟨rfl, hbx⟩; exact ⟨rfl, ⟨wx, bel2 s.ok hbx⟩, rfl⟩)))
      refine wpQuiet_nil ?_
      intro _ hw'
      obtain ⟨s, hw''⟩ := hw'
      subst hw''
      have HE : Hid (Below w.heap.size w s.w) := bel2 B3.out s.ok
      clear hne d0 d1 d2 d3 d4 d5 d6
      go_wp2
      go_ret
      exact ⟨ret_bool HP.out.symm, HE.out⟩
  · have hev := ne_empty he
    rw [decide_eq_false he, Bool.false_and] at HP
    clear he
    go_enter Tryz.func73, Tryz.ntmps73
    go_wp2_with fail
    refine region_in (C := fun w' => ∃ s : BW w3, w' = s.w) (by kernel_rfl) (by kernel_rfl) ⟨⟨w3.drew, (Below.refl _ _).drew⟩, rfl⟩ ?_
    repeat (go_big_quiet_step (first
      | (go_at_call 124; rename_i s; refine (HR.out s.w).mono ?_; rintro e wx ⟨rfl, hbx⟩; exact ⟨rfl, ⟨wx, bel2 s.ok hbx⟩, rfl⟩)))
    refine wpQuiet_nil ?_
    intro _ hw'
    obtain ⟨s, hw''⟩ := hw'
    subst hw''
    have HE : Hid (Below w.heap.size w s.w) := bel2 B3.out s.ok
    clear hne d0 d1 d2 d3 d4 d5 d6
    go_wp2
    go_ret
    exact ⟨ret_bool HP.out.symm, HE.out⟩
set_option maxRecDepth 20000 in
set_option maxHeartbeats 3200000 in
theorem plainBool (ns : List Nd) (oT : Option Addr) (capT n : Nat) (hn : n < ns.length) (oK : Option Addr) (nK cK : Nat) (a : Arr) (o : Option Addr) (cap : Nat) (ho : Ok a) (hk : (nd ns n).kind = 1) (f : Nat) (w : World) (ht : IsT w oT ns) :
    Calls Tryz.prog 73 #[.agg #[.slice oT ns.length capT], .int .i64 (n : Int), .slice oK nK cK, a.val o cap] w fun r w' => r = .returned (.bool (plainB (mayF ns f) ns n a)) ∧ Below w.heap.size w w' := by
  obtain ⟨w1, w2, w3, e1, e2, e3, hb⟩ := boxs w oT oK ns.length capT nK cK a o cap
  obtain ⟨x, rfl, hl⟩ := ht.some (by omega)
  have B3 : Hid (Below w.heap.size w w3) := hb.below
  have HP : Hid (plainB (mayF ns f) ns n a = (decide (a.ends.size = 0) && (decide (a.kids.length = 0) && bitsB a.data (rowsOf a)))) := plain_bool hk
  have hl3 := hl.later hb.below
  have c0 := hl3.kind' n hn
  rw [hk] at c0
  have cT := hb.ty
  have C := hb.bx.cells
  have HR : Hid (∀ v, Calls Tryz.prog 124 #[a.val o cap] v fun r w' => r = .returned (.int .i64 ((rowsOf a : Nat) : Int)) ∧ Below v.heap.size v w') := fun v => rows a o cap ho.off ho.len ho.rows v
  have hne := BW.some w3
  have d0 := C.d0
  have d1 := C.d1
  have d2 := C.d2
  have d3 := C.d3
  have d4 := C.d4
  have d5 := C.d5
  have d6 := C.d6
  have hrow : rowsOf a ≤ 64 := by have := ho.rows; have := ho.off; have := ho.len; unfold rowsOf; omega
  have HS : Hid (∀ v, Calls Tryz.prog 123 #[.string a.data, .int .i64 ((rowsOf a : Nat) : Int)] v fun r w' => r = .returned (.bool (bitsB a.data (rowsOf a))) ∧ Below v.heap.size v w') := fun v => hasBits a.data (rowsOf a) ho.data hrow v
  have j0 : (0 : Int) ≤ (n : Int) := Int.natCast_nonneg _
  have j1 : (n : Int) < (ns.length : Int) := by omega
  unfold Arr.val at HR ⊢
  clear C hb ho hl hl3 ht hrow
  generalize plainB (mayF ns f) ns n a = R at *
  generalize bitsB a.data (rowsOf a) = Q at *
  generalize rowsOf a = m at *
  by_cases he : a.ends.size = 0
  · have hev := empty_of he
    rw [decide_eq_true he, Bool.true_and] at HP
    clear he
    generalize a.ends = v at *
    subst hev
    generalize a.kids.length = q at *
    by_cases hq : q = 0
    · rw [decide_eq_true hq, Bool.true_and] at HP
      subst hq
      go_enter Tryz.func73, Tryz.ntmps73
      go_wp2_with fail
      refine region_in (C := fun w' => ∃ s : BW w3, w' = s.w) (by kernel_rfl) (by kernel_rfl) ⟨⟨w3.drew, (Below.refl _ _).drew⟩, rfl⟩ ?_
      repeat (go_big_quiet_step (first
        | (go_at_call 124; rename_i s; refine (HR.out s.w).mono ?_; rintro e wx ⟨rfl, hbx⟩; exact ⟨rfl, ⟨wx, bel2 s.ok hbx⟩, rfl⟩)
        | (go_at_call 123; rename_i s; refine (HS.out s.w).mono ?_; rintro e wx ⟨rfl, hbx⟩; exact ⟨rfl, ⟨wx, bel2 s.ok hbx⟩, rfl⟩)))
      refine wpQuiet_nil ?_
      intro _ hw'
      obtain ⟨s, hw''⟩ := hw'
      subst hw''
      have HE : Hid (Below w.heap.size w s.w) := bel2 B3.out s.ok
      clear hne d0 d1 d2 d3 d4 d5 d6
      go_wp2
      go_ret
      exact ⟨ret_bool HP.out.symm, HE.out⟩
    · rw [decide_eq_false hq, Bool.false_and] at HP
      have hq2 : (((q : Nat) : Int) == 0) = false := by rw [beq_eq_false_iff_ne]; omega
      go_enter Tryz.func73, Tryz.ntmps73
      go_wp2_with fail
      refine region_in (C := fun w' => ∃ s : BW w3, w' = s.w) (by kernel_rfl) (by kernel_rfl) ⟨⟨w3.drew, (Below.refl _ _).drew⟩, rfl⟩ ?_
      repeat (go_big_quiet_step (first
        | (go_at_call 124; rename_i s; refine (HR.out s.w).mono ?_; rintro e wx ⟨rfl, hbx⟩; exact ⟨rfl, ⟨wx, bel2 s.ok hbx⟩, rfl⟩)
        | (go_at_call 123; rename_i s; refine (HS.out s.w).mono ?_; rintro e wx ⟨rfl, hbx⟩; exact ⟨rfl, ⟨wx, bel2 s.ok hbx⟩, rfl⟩)))
      refine wpQuiet_nil ?_
      intro _ hw'
      obtain ⟨s, hw''⟩ := hw'
      subst hw''
      have HE : Hid (Below w.heap.size w s.w) := bel2 B3.out s.ok
      clear hne d0 d1 d2 d3 d4 d5 d6
      go_wp2
      go_ret
      exact ⟨ret_bool HP.out.symm, HE.out⟩
  · have hev := ne_empty he
    rw [decide_eq_false he, Bool.false_and] at HP
    clear he
    go_enter Tryz.func73, Tryz.ntmps73
    go_wp2_with fail
    refine region_in (C := fun w' => ∃ s : BW w3, w' = s.w) (by kernel_rfl) (by kernel_rfl) ⟨⟨w3.drew, (Below.refl _ _).drew⟩, rfl⟩ ?_
    repeat (go_big_quiet_step (first
      | (go_at_call 124; rename_i s; refine (HR.out s.w).mono ?_; rintro e wx ⟨rfl, hbx⟩; exact ⟨rfl, ⟨wx, bel2 s.ok hbx⟩, rfl⟩)
        | (go_at_call 123; rename_i s; refine (HS.out s.w).mono ?_; rintro e wx ⟨rfl, hbx⟩; exact ⟨rfl, ⟨wx, bel2 s.ok hbx⟩, rfl⟩)))
    refine wpQuiet_nil ?_
    intro _ hw'
    obtain ⟨s, hw''⟩ := hw'
    subst hw''
    have HE : Hid (Below w.heap.size w s.w) := bel2 B3.out s.ok
    clear hne d0 d1 d2 d3 d4 d5 d6
    go_wp2
    go_ret
    exact ⟨ret_bool HP.out.symm, HE.out⟩
set_option maxRecDepth 20000 in
set_option maxHeartbeats 3200000 in
theorem plainBytes (ns : List Nd) (oT : Option Addr) (capT n : Nat) (hn : n < ns.length) (oK : Option Addr) (nK cK : Nat) (a : Arr) (o : Option Addr) (cap : Nat) (ho : Ok a) (hk : (nd ns n).kind = 2) (f : Nat) (w : World) (ht : IsT w oT ns) :
    Calls Tryz.prog 73 #[.agg #[.slice oT ns.length capT], .int .i64 (n : Int), .slice oK nK cK, a.val o cap] w fun r w' => r = .returned (.bool (plainB (mayF ns f) ns n a)) ∧ Below w.heap.size w w' := by
  obtain ⟨w1, w2, w3, e1, e2, e3, hb⟩ := boxs w oT oK ns.length capT nK cK a o cap
  obtain ⟨x, rfl, hl⟩ := ht.some (by omega)
  have B3 : Hid (Below w.heap.size w w3) := hb.below
  have HX : Hid (Bx w3 w2.heap.size a o cap) := hb.bx
  have hl3 := hl.later hb.below
  have c0 := hl3.kind' n hn
  rw [hk] at c0
  have cT := hb.ty
  have j0 : (0 : Int) ≤ (n : Int) := Int.natCast_nonneg _
  have j1 : (n : Int) < (ns.length : Int) := by omega
  have d0 := hb.bx.c0
  have d1 := hb.bx.c1
  have d2 := hb.bx.c2
  have d3 := hb.bx.c3
  have d4 := hb.bx.c4
  have d5 := hb.bx.c5
  have d6 := hb.bx.c6
  have HP : Hid (plainB (mayF ns f) ns n a = (decide (a.kids.length = 0) && (endsOk a (a.data.size : Int) && nearE a.ends a.offset.toNat a.length.toNat))) := plain_bytes ho hk
  have HE : Hid (∀ v, Calls Tryz.prog 128 #[a.val o cap, .int .i64 (a.data.size : Int)] v fun r w' => r = .returned (.bool (endsOk a (a.data.size : Int))) ∧ Below v.heap.size v w') := fun v => hasEnds a o cap ho _ v
  have HN : Hid (∀ v, endsOk a (a.data.size : Int) = true → Calls Tryz.prog 129 #[a.val o cap] v fun r w' => r = .returned (.bool (nearE a.ends a.offset.toNat a.length.toNat)) ∧ Below v.heap.size v w') := fun v h => areNear a o cap ho (by unfold endsOk at h; rw [Bool.and_eq_true] at h; exact h.1) v
  unfold Arr.val at HE HN ⊢
  clear hb ho hl hl3 ht
  generalize plainB (mayF ns f) ns n a = R at *
  generalize nearE a.ends a.offset.toNat a.length.toNat = Q at *
  by_cases hq : a.kids.length = 0
  · rw [decide_eq_true hq, Bool.true_and] at HP
    have HQ0 : Hid (a.kids.length = 0) := hq
    have hq2 : (((a.kids.length : Nat) : Int) == 0) = true := by rw [hq]; rfl
    have hq3 : decide (((a.kids.length : Nat) : Int) = 0) = true := by rw [hq]; rfl
    clear hq
    cases hE : endsOk a (a.data.size : Int)
    · rw [hE, Bool.false_and] at HP
      rw [hE] at HE
      clear hE
      generalize a.kids.length = q at *
      have h0 := HQ0.out
      subst h0
      go_enter Tryz.func73, Tryz.ntmps73
      go_wp2_with fail
      refine (HE.out w3).mono ?_
      rintro e w4 ⟨rfl, b4⟩
      go_wp2
      go_ret
      exact ⟨ret_bool HP.out.symm, bel2 B3.out b4⟩
    · rw [hE, Bool.true_and] at HP
      replace HN : Hid (∀ v, Calls Tryz.prog 129 _ v _) := fun v => HN.out v hE
      rw [hE] at HE
      clear hE
      have XX : Hid (∀ w4, Below w3.heap.size w3 w4 → w4.cell? ⟨w2.heap.size, 0, none⟩ = some (.int .i64 a.layout) ∧ w4.cell? ⟨w2.heap.size, 1, none⟩ = some (.int .i64 a.offset) ∧ w4.cell? ⟨w2.heap.size, 2, none⟩ = some (.int .i64 a.length) ∧ w4.cell? ⟨w2.heap.size, 3, none⟩ = some (.string a.valid) ∧ w4.cell? ⟨w2.heap.size, 4, none⟩ = some (.string a.ends) ∧ w4.cell? ⟨w2.heap.size, 5, none⟩ = some (.string a.data) ∧ w4.cell? ⟨w2.heap.size, 6, none⟩ = some (.slice o a.kids.length cap)) := fun w4 b => by
        have X := HX.out.later b
        exact ⟨X.c0, X.c1, X.c2, X.c3, X.c4, X.c5, X.c6⟩
      clear HX
      generalize a.kids.length = q at *
      have h0 := HQ0.out
      subst h0
      go_enter Tryz.func73, Tryz.ntmps73
      go_wp2_with fail
      refine (HE.out w3).mono ?_
      rintro e w4 ⟨rfl, b4⟩
      clear d0 d1 d2 d3 d4 d5 d6
      obtain ⟨d0, d1, d2, d3, d4, d5, d6⟩ := XX.out w4 b4
      go_wp2_with fail
      refine (HN.out w4).mono ?_
      rintro e w5 ⟨rfl, b5⟩
      go_wp2
      go_ret
      exact ⟨ret_bool HP.out.symm, bel2 B3.out (bel2 b4 b5)⟩
  · rw [decide_eq_false hq, Bool.false_and] at HP
    have hq2 : (((a.kids.length : Nat) : Int) == 0) = false := by rw [beq_eq_false_iff_ne]; omega
    go_enter Tryz.func73, Tryz.ntmps73
    go_wp2
    go_ret
    exact ⟨ret_bool HP.out.symm, B3.out⟩
end Go.Proofs.YtcpfhfdgfcilaaaGreatDoor.Arr
