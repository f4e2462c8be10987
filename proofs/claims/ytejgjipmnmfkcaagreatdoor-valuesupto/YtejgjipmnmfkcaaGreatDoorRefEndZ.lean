/-
  Where a value ends, as the document's own answer looks for it, at each depth: contracts.
-/
import Derived.Test.YtejgjipmnmfkcaaGreatDoorPlaces
import Derived.Test.YtejgjipmnmfkcaaGreatDoorMake
import Derived.Test.YtejgjipmnmfkcaaGreatDoorRefDig
import Derived.Test.YtejgjipmnmfkcaaGreatDoorRefEnd
import Derived.Deep.CutBlock
namespace Go.Proofs.YtejgjipmnmfkcaaGreatDoor.Val
open Go.ChangeShapes Go.WideShapes Go.ChangeAt Go.RowKit

theorem ret_int {a b : Int} (h : a = b) : Ending.returned (.int .i64 a) = .returned (.int .i64 b) := by rw [h]
theorem byteR_ne {b c : UInt8} (h : b ≠ c) : ((b.toNat : Nat) : Int) ≠ ((c.toNat : Nat) : Int) := fun e => h (UInt8.toNat_inj.1 (by omega))
set_option maxRecDepth 20000 in
set_option maxHeartbeats 1600000 in
theorem endNest91 (d : Nat) (hd : d ≤ 4) (s : ByteArray) (p : Nat) (hs : s.size ≤ 65536) (hp : p < s.size) (hb0 : s[p] = 91)
    (hrec : Hid (∀ (q : Nat) (y : World), 1 ≤ d → q < s.size → Calls Tryz.prog 30 #[.string s, .int .i64 (q : Int), .int .i64 ((d : Int) - 1)] y fun r w' => r = .returned (.int .i64 (endO (below d) s q)) ∧ Below y.heap.size y w')) (w : World) :
    Calls Tryz.prog 30 #[.string s, .int .i64 (p : Int), .int .i64 (d : Int)] w fun r w' => r = .returned (.int .i64 (manyZ (below d) 93 s (p + 1))) ∧ Below w.heap.size w w' := by
  have hb : ((s[p].toNat : Nat) : Int) = 91 := by rw [hb0]; rfl
  clear hb0
  have hp1 : decide (s.size ≤ p) = false := decide_eq_false (by omega)
  have hp2 : decide (((s.size : Nat) : Int) ≤ ((p : Nat) : Int)) = false := decide_eq_false (by omega)
  generalize hZ : manyZ (below d) 93 s (p + 1) = Z
  have HZ0 : Hid (Z = manyZ (below d) 93 s (p + 1)) := hZ.symm
  clear hZ
  go_enter Tryz.func30, Tryz.ntmps30
  go_wp2_with fail
  go_loopw [1] (fun t wr => ∃ q : Nat, p + 1 ≤ q ∧ q ≤ s.size ∧ t = .int .i64 (q : Int) ∧ Z = manyZ (below d) 93 s q ∧ Below w.heap.size w wr) (fun t _ => s.size - (intOf t).toNat)
  case atStart => exact ⟨p + 1, Nat.le_refl _, by omega, by go_num, HZ0.out, Below.refl _ _⟩
  case round =>
    obtain ⟨q, h1, h2, rfl, hz, hbl⟩ := hrel
    have HZ : Hid (Z = manyZ (below d) 93 s q) := hz
    have HB : Hid (Below w.heap.size w wr) := hbl
    clear hz hbl HZ0
    by_cases hq : q < s.size
    · by_cases hst : s[q] = 93
      · have HE : Hid (Z = ((q + 1 : Nat) : Int)) := by unfold Hid; rw [HZ.out, manyZ_stop hq hst]
        have hc : ((s[q].toNat : Nat) : Int) = 93 := by rw [hst]; rfl
        clear hst HZ hrec
        rcases Nat.eq_zero_or_pos d with rfl | hd0
        all_goals
          go_wp2
          go_ret
          exact ⟨ret_int (by rw [HE.out]; omega), HB.out⟩
      · have hc : ((s[q].toNat : Nat) : Int) ≠ 93 := byteR_ne hst
        rcases Nat.eq_zero_or_pos d with rfl | hd0
        · have HE : Hid (Z = -1) := by unfold Hid; rw [HZ.out, manyZ_bad hq hst rfl]
          clear hst HZ hrec
          go_wp2
          go_ret
          exact ⟨ret_int HE.out.symm, HB.out⟩
        · have HST : Hid (s[q] ≠ 93) := hst
          clear hst
          go_wp2_with fail
          refine (hrec.out q wr hd0 hq).mono ?_
          rintro e w1 ⟨rfl, b1⟩
          have HB1 : Hid (Below w.heap.size w w1) := bel2 HB.out b1
          clear b1
          rcases endO_cases (fair_below d) s q hq with ⟨ho, hn⟩ | ⟨q', ho, hlt, hle, hn⟩
          · have HE : Hid (Z = -1) := by unfold Hid; rw [HZ.out, manyZ_bad hq HST.out hn]
            rw [ho]
            clear ho hn HZ HST
            go_wp2
            go_ret
            exact ⟨ret_int HE.out.symm, HB1.out⟩
          · have HE : Hid (Z = manyZ (below d) 93 s q') := by unfold Hid; rw [HZ.out, manyZ_step (fair_below d) hq HST.out hlt hle hn]
            rw [ho]
            clear ho hn HZ HST
            go_wp2
            go_roundw
            case rel => exact ⟨q', by omega, hle, rfl, HE.out, HB1.out⟩
            case measure => simp [intOf]; omega
    · have HE : Hid (Z = -1) := by unfold Hid; rw [HZ.out, manyZ_out (by omega)]
      clear HZ hrec
      rcases Nat.eq_zero_or_pos d with rfl | hd0
      all_goals
        go_wp2
        go_ret
        exact ⟨ret_int HE.out.symm, HB.out⟩
set_option maxRecDepth 20000 in
set_option maxHeartbeats 1600000 in
theorem endNest123 (d : Nat) (hd : d ≤ 4) (s : ByteArray) (p : Nat) (hs : s.size ≤ 65536) (hp : p < s.size) (hb0 : s[p] = 123)
    (hrec : Hid (∀ (q : Nat) (y : World), 1 ≤ d → q < s.size → Calls Tryz.prog 30 #[.string s, .int .i64 (q : Int), .int .i64 ((d : Int) - 1)] y fun r w' => r = .returned (.int .i64 (endO (below d) s q)) ∧ Below y.heap.size y w')) (w : World) :
    Calls Tryz.prog 30 #[.string s, .int .i64 (p : Int), .int .i64 (d : Int)] w fun r w' => r = .returned (.int .i64 (manyZ (below d) 125 s (p + 1))) ∧ Below w.heap.size w w' := by
  have hb : ((s[p].toNat : Nat) : Int) = 123 := by rw [hb0]; rfl
  clear hb0
  have hp1 : decide (s.size ≤ p) = false := decide_eq_false (by omega)
  have hp2 : decide (((s.size : Nat) : Int) ≤ ((p : Nat) : Int)) = false := decide_eq_false (by omega)
  generalize hZ : manyZ (below d) 125 s (p + 1) = Z
  have HZ0 : Hid (Z = manyZ (below d) 125 s (p + 1)) := hZ.symm
  clear hZ
  go_enter Tryz.func30, Tryz.ntmps30
  go_wp2_with fail
  go_loopw [1] (fun t wr => ∃ q : Nat, p + 1 ≤ q ∧ q ≤ s.size ∧ t = .int .i64 (q : Int) ∧ Z = manyZ (below d) 125 s q ∧ Below w.heap.size w wr) (fun t _ => s.size - (intOf t).toNat)
  case atStart => exact ⟨p + 1, Nat.le_refl _, by omega, by go_num, HZ0.out, Below.refl _ _⟩
  case round =>
    obtain ⟨q, h1, h2, rfl, hz, hbl⟩ := hrel
    have HZ : Hid (Z = manyZ (below d) 125 s q) := hz
    have HB : Hid (Below w.heap.size w wr) := hbl
    clear hz hbl HZ0
    by_cases hq : q < s.size
    · by_cases hst : s[q] = 125
      · have HE : Hid (Z = ((q + 1 : Nat) : Int)) := by unfold Hid; rw [HZ.out, manyZ_stop hq hst]
        have hc : ((s[q].toNat : Nat) : Int) = 125 := by rw [hst]; rfl
        clear hst HZ hrec
        rcases Nat.eq_zero_or_pos d with rfl | hd0
        all_goals
          go_wp2
          go_ret
          exact ⟨ret_int (by rw [HE.out]; omega), HB.out⟩
      · have hc : ((s[q].toNat : Nat) : Int) ≠ 125 := byteR_ne hst
        rcases Nat.eq_zero_or_pos d with rfl | hd0
        · have HE : Hid (Z = -1) := by unfold Hid; rw [HZ.out, manyZ_bad hq hst rfl]
          clear hst HZ hrec
          go_wp2
          go_ret
          exact ⟨ret_int HE.out.symm, HB.out⟩
        · have HST : Hid (s[q] ≠ 125) := hst
          clear hst
          go_wp2_with fail
          refine (hrec.out q wr hd0 hq).mono ?_
          rintro e w1 ⟨rfl, b1⟩
          have HB1 : Hid (Below w.heap.size w w1) := bel2 HB.out b1
          clear b1
          rcases endO_cases (fair_below d) s q hq with ⟨ho, hn⟩ | ⟨q', ho, hlt, hle, hn⟩
          · have HE : Hid (Z = -1) := by unfold Hid; rw [HZ.out, manyZ_bad hq HST.out hn]
            rw [ho]
            clear ho hn HZ HST
            go_wp2
            go_ret
            exact ⟨ret_int HE.out.symm, HB1.out⟩
          · have HE : Hid (Z = manyZ (below d) 125 s q') := by unfold Hid; rw [HZ.out, manyZ_step (fair_below d) hq HST.out hlt hle hn]
            rw [ho]
            clear ho hn HZ HST
            go_wp2
            go_roundw
            case rel => exact ⟨q', by omega, hle, rfl, HE.out, HB1.out⟩
            case measure => simp [intOf]; omega
    · have HE : Hid (Z = -1) := by unfold Hid; rw [HZ.out, manyZ_out (by omega)]
      clear HZ hrec
      rcases Nat.eq_zero_or_pos d with rfl | hd0
      all_goals
        go_wp2
        go_ret
        exact ⟨ret_int HE.out.symm, HB.out⟩
theorem firstAt_up {s : ByteArray} {p k : Nat} {c : UInt8} (h : FirstAt s p c k) (hp : p < s.size) (hb : s[p] ≠ c) : FirstAt s (p + 1) c k := by
  obtain ⟨h1, h2, h3, h4⟩ := h
  have hne : k ≠ p := by
    rintro rfl
    exact hb (by rw [bl_at]; exact h3)
  exact ⟨by omega, h2, h3, fun j j1 j2 => h4 j (by omega) j2⟩
theorem ex_size (s : ByteArray) (a b : Nat) (hs : s.size ≤ 65536) : (s.extract a b).size ≤ 65536 := by
  rw [ByteArray.size_extract]
  omega
set_option maxRecDepth 20000 in
set_option maxHeartbeats 1600000 in
theorem endIntR (d : Nat) (_hd : d ≤ 4) (s : ByteArray) (p : Nat) (hs : s.size ≤ 65536) (hp : p < s.size) (hb0 : s[p] = 105) (w : World) :
    Calls Tryz.prog 30 #[.string s, .int .i64 (p : Int), .int .i64 (d : Int)] w fun r w' => r = .returned (.int .i64 (endZ d s p)) ∧ Below w.heap.size w w' := by
  have hb : ((s[p].toNat : Nat) : Int) = 105 := by rw [hb0]; rfl
  have HF : Hid ((∀ j, p ≤ j → j < s.size → j < p + 22 → (bl s).getD j 0 ≠ 59) → endZ d s p = -1) := fun h => endZ_int_far hp hb0 fun j h1 h2 h3 => h j (by omega) h2 h3
  have HK : Hid (∀ k, FirstAt s p 59 k → p + 1 ≤ k ∧ k < s.size ∧ endZ d s p = if (numOf (bl (s.extract (p + 1) k))).isSome then ((k + 1 : Nat) : Int) else -1) := fun k hk => by
    have := firstAt_up hk hp (by rw [hb0]; decide)
    exact ⟨this.1, this.2.1, endZ_int hp hb0 this⟩
  clear hb0
  generalize endZ d s p = Z at *
  go_enter Tryz.func30, Tryz.ntmps30
  go_wp2_with fail
  refine (uptoR s p 59 hs (by omega) w).mono ?_
  rintro e w1 ⟨z, rfl, hu, hw1⟩
  subst w1
  rcases hu with ⟨k, rfl, hk, h22⟩ | ⟨rfl, hfar⟩
  · obtain ⟨k1, k2, hz⟩ := HK.out k hk
    have HZ : Hid (Z = if (numOf (bl (s.extract (p + 1) k))).isSome then ((k + 1 : Nat) : Int) else -1) := hz
    have hex := ex_size s (p + 1) k hs
    have i0 : (0 : Int) ≤ (p : Int) + 1 := by omega
    have i1 : (p : Int) + 1 ≤ (k : Int) := by omega
    have i2 : (k : Int) ≤ (s.size : Int) := by omega
    clear HK HF hz hk
    go_wp2_with fail
    refine (wholeR (s.extract (p + 1) k) hex w).mono ?_
    rintro e w1 ⟨x, rfl, hx, b1⟩
    have HB : Hid (Below w.heap.size w w1) := b1
    clear b1 hx
    generalize (numOf (bl (s.extract (p + 1) k))).isSome = is at *
    cases is
    all_goals
      go_wp2
      go_ret
      exact ⟨ret_int (by rw [HZ.out]; first | rfl | (show _ = ((k + 1 : Nat) : Int); omega)), HB.out⟩
  · have HZ : Hid (Z = -1) := HF.out hfar
    clear HK HF hfar
    go_wp2
    go_ret
    exact ⟨ret_int HZ.out.symm, Below.refl _ _⟩
set_option maxRecDepth 20000 in
set_option maxHeartbeats 1600000 in
theorem endBytesR (d : Nat) (_hd : d ≤ 4) (s : ByteArray) (p : Nat) (hs : s.size ≤ 65536) (hp : p < s.size) (hb0 : s[p] = 115) (w : World) :
    Calls Tryz.prog 30 #[.string s, .int .i64 (p : Int), .int .i64 (d : Int)] w fun r w' => r = .returned (.int .i64 (endZ d s p)) ∧ Below w.heap.size w w' := by
  have hb : ((s[p].toNat : Nat) : Int) = 115 := by rw [hb0]; rfl
  have HF : Hid ((∀ j, p ≤ j → j < s.size → j < p + 22 → (bl s).getD j 0 ≠ 58) → endZ d s p = -1) := fun h => endZ_bytes_far hp hb0 fun j h1 h2 h3 => h j (by omega) h2 h3
  have HK : Hid (∀ k, FirstAt s p 58 k → p + 1 ≤ k ∧ k < s.size ∧ endZ d s p = match numOf (bl (s.extract (p + 1) k)) with
    | none => -1
    | some x => if 0 ≤ x ∧ x ≤ (s.size : Int) - k - 1 then (k : Int) + 1 + x else -1) := fun k hk => by
    have := firstAt_up hk hp (by rw [hb0]; decide)
    exact ⟨this.1, this.2.1, endZ_bytes hp hb0 this⟩
  clear hb0
  generalize endZ d s p = Z at *
  go_enter Tryz.func30, Tryz.ntmps30
  go_wp2_with fail
  refine (uptoR s p 58 hs (by omega) w).mono ?_
  rintro e w1 ⟨z, rfl, hu, hw1⟩
  subst w1
  rcases hu with ⟨k, rfl, hk, h22⟩ | ⟨rfl, hfar⟩
  · obtain ⟨k1, k2, hz⟩ := HK.out k hk
    have hex := ex_size s (p + 1) k hs
    have i0 : (0 : Int) ≤ (p : Int) + 1 := by omega
    have i1 : (p : Int) + 1 ≤ (k : Int) := by omega
    have i2 : (k : Int) ≤ (s.size : Int) := by omega
    clear HK HF hk
    go_wp2_with fail
    refine (wholeR (s.extract (p + 1) k) hex w).mono ?_
    rintro e w1 ⟨x, rfl, hx, b1⟩
    have HB : Hid (Below w.heap.size w w1) := b1
    clear b1
    cases hn : numOf (bl (s.extract (p + 1) k)) with
    | none =>
      rw [hn] at hz
      have HZ : Hid (Z = -1) := hz
      clear hz hx hn
      rw [Option.isSome_none]
      go_wp2
      go_ret
      exact ⟨ret_int HZ.out.symm, HB.out⟩
    | some y =>
      obtain rfl := hx y hn
      have hin := (numOf_some.1 hn).1
      rw [hn] at hz
      have HZ : Hid (Z = if 0 ≤ x ∧ x ≤ (s.size : Int) - k - 1 then (k : Int) + 1 + x else -1) := hz
      obtain ⟨i1, i2⟩ := hin
      clear hz hx hn
      rw [Option.isSome_some]
      by_cases c : 0 ≤ x
      · by_cases c2 : x ≤ (s.size : Int) - k - 1
        · have HE : Hid (Z = (k : Int) + 1 + x) := by unfold Hid; rw [HZ.out, if_pos ⟨c, c2⟩]
          clear HZ
          go_wp2
          go_ret
          exact ⟨ret_int HE.out.symm, HB.out⟩
        · have HE : Hid (Z = -1) := by unfold Hid; rw [HZ.out, if_neg (fun h => c2 h.2)]
          clear HZ
          go_wp2
          go_ret
          exact ⟨ret_int HE.out.symm, HB.out⟩
      · have HE : Hid (Z = -1) := by unfold Hid; rw [HZ.out, if_neg (fun h => c h.1)]
        clear HZ
        go_wp2
        go_ret
        exact ⟨ret_int HE.out.symm, HB.out⟩
  · have HZ : Hid (Z = -1) := HF.out hfar
    clear HK HF hfar
    go_wp2
    go_ret
    exact ⟨ret_int HZ.out.symm, Below.refl _ _⟩
set_option maxRecDepth 20000 in
set_option maxHeartbeats 1600000 in
theorem endStep (d : Nat) (hd : d ≤ 4) (s : ByteArray) (p : Nat) (hs : s.size ≤ 65536) (hp : p ≤ s.size)
    (hrec : Hid (∀ (q : Nat) (y : World), 1 ≤ d → q < s.size → Calls Tryz.prog 30 #[.string s, .int .i64 (q : Int), .int .i64 ((d : Int) - 1)] y fun r w' => r = .returned (.int .i64 (endO (below d) s q)) ∧ Below y.heap.size y w')) (w : World) :
    Calls Tryz.prog 30 #[.string s, .int .i64 (p : Int), .int .i64 (d : Int)] w fun r w' => r = .returned (.int .i64 (endZ d s p)) ∧ Below w.heap.size w w' := by
  by_cases h0 : p < s.size
  · by_cases c1 : s[p] = 110 ∨ s[p] = 116 ∨ s[p] = 102
    · have HZ : Hid (endZ d s p = ((p + 1 : Nat) : Int)) := endZ_word h0 c1
      generalize endZ d s p = Z at *
      rcases c1 with c | c | c
      · have hb : ((s[p].toNat : Nat) : Int) = 110 := by rw [c]; rfl
        clear c hrec
        go_enter Tryz.func30, Tryz.ntmps30
        go_wp2
        go_ret
        exact ⟨ret_int (by rw [HZ.out]; omega), Below.refl _ _⟩
      · have hb : ((s[p].toNat : Nat) : Int) = 116 := by rw [c]; rfl
        clear c hrec
        go_enter Tryz.func30, Tryz.ntmps30
        go_wp2
        go_ret
        exact ⟨ret_int (by rw [HZ.out]; omega), Below.refl _ _⟩
      · have hb : ((s[p].toNat : Nat) : Int) = 102 := by rw [c]; rfl
        clear c hrec
        go_enter Tryz.func30, Tryz.ntmps30
        go_wp2
        go_ret
        exact ⟨ret_int (by rw [HZ.out]; omega), Below.refl _ _⟩
    · by_cases c2 : s[p] = 105
      · exact endIntR d hd s p hs h0 c2 w
      · by_cases c3 : s[p] = 115
        · exact endBytesR d hd s p hs h0 c3 w
        · by_cases c4 : s[p] = 91
          · rw [endZ_nest h0 (.inl c4), c4]
            exact endNest91 d hd s p hs h0 c4 hrec w
          · by_cases c5 : s[p] = 123
            · rw [endZ_nest h0 (.inr c5), c5]
              exact endNest123 d hd s p hs h0 c5 hrec w
            · have HZ : Hid (endZ d s p = -1) := endZ_other h0 ⟨fun c => c1 (.inl c), fun c => c1 (.inr (.inl c)), fun c => c1 (.inr (.inr c)), c2, c3, c4, c5⟩
              generalize endZ d s p = Z at *
              have e1 : ((s[p].toNat : Nat) : Int) ≠ 110 := byteR_ne fun c => c1 (.inl c)
              have e2 : ((s[p].toNat : Nat) : Int) ≠ 116 := byteR_ne fun c => c1 (.inr (.inl c))
              have e3 : ((s[p].toNat : Nat) : Int) ≠ 102 := byteR_ne fun c => c1 (.inr (.inr c))
              have e4 : ((s[p].toNat : Nat) : Int) ≠ 105 := byteR_ne c2
              have e5 : ((s[p].toNat : Nat) : Int) ≠ 115 := byteR_ne c3
              have e6 : ((s[p].toNat : Nat) : Int) ≠ 91 := byteR_ne c4
              have e7 : ((s[p].toNat : Nat) : Int) ≠ 123 := byteR_ne c5
              clear c1 c2 c3 c4 c5 hrec
              go_enter Tryz.func30, Tryz.ntmps30
              go_wp2
              go_ret
              exact ⟨ret_int HZ.out.symm, Below.refl _ _⟩
  · have HZ : Hid (endZ d s p = -1) := endZ_out (by omega)
    generalize endZ d s p = Z at *
    clear hrec
    go_enter Tryz.func30, Tryz.ntmps30
    go_wp2
    go_ret
    exact ⟨ret_int HZ.out.symm, Below.refl _ _⟩
set_option maxRecDepth 20000 in
set_option maxHeartbeats 1600000 in
theorem endR : ∀ (d : Nat), d ≤ 4 → ∀ (s : ByteArray) (p : Nat), s.size ≤ 65536 → p ≤ s.size → ∀ w : World,
    Calls Tryz.prog 30 #[.string s, .int .i64 (p : Int), .int .i64 (d : Int)] w fun r w' => r = .returned (.int .i64 (endZ d s p)) ∧ Below w.heap.size w w' := by
  intro d
  induction d with
  | zero =>
    intro hd s p hs hp w
    exact endStep 0 hd s p hs hp (fun q y h _ => absurd h (by decide)) w
  | succ d ih =>
    intro hd s p hs hp w
    refine endStep (d + 1) hd s p hs hp (fun q y _ hq => ?_) w
    have := ih (by omega) s q hs (by omega) y
    rw [show ((d + 1 : Nat) : Int) - 1 = (d : Int) from by omega]
    exact this
end Go.Proofs.YtejgjipmnmfkcaaGreatDoor.Val
