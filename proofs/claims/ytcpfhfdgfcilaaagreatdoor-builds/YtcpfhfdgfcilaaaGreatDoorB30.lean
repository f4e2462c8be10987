/-
  Several texts in one: Build, by the program: contract. · Awake, as the laws of building ask it: its contract.
-/
import Derived.Test.YtcpfhfdgfcilaaaGreatDoorB29
import Derived.Test.YtcpfhfdgfcilaaaGreatDoorB20
import Derived.Test.YtcpfhfdgfcilaaaGreatDoorB18
import Derived.Test.YtcpfhfdgfcilaaaGreatDoorB24
set_option linter.unusedVariables false
set_option linter.unusedSimpArgs false
namespace Go.Proofs.YtcpfhfdgfcilaaaGreatDoor.Arr
open Go.ChangeShapes Go.WideShapes Go.ChangeAt Go.RowKit
open Tree Val Sums

/-- No text is longer than a text can be. -/
def SizesOk (ss : List ByteArray) : Prop := ∀ k, k < ss.length → (ss.getD k ByteArray.empty).size ≤ 9223372036854775807
set_option maxRecDepth 20000 in
theorem fit1C (ns : List Nd) (oT : Option Addr) (capT : Nat) (at' : Int) (s : ByteArray) (k : Int) (bT bA : Nat) (w : World) (hs : s.size ≤ 9223372036854775807) (hw : Hid (HomeE w)) (ht : Hid (IsT w oT ns)) (hT : w.cell? ⟨bT, 0, none⟩ = some (.slice oT ns.length capT)) (hA : w.cell? ⟨bA, 0, none⟩ = some (.int .i64 at')) :
    Calls Tryz.prog 91 #[.int .i64 k, .string s, .pointer (some ⟨bT, 0, none⟩), .pointer (some ⟨bA, 0, none⟩)] w fun r w' => r = .returned (.bool (fitsZ ns at' s)) ∧ Below w.heap.size w w' := by
  have HC : Hid (Calls Tryz.prog 92 #[.agg #[.slice oT ns.length capT], .int .i64 at', .string s] w fun r w' => r = .returned (.bool (fitsZ ns at' s)) ∧ Below w.heap.size w w') := fitsC oT capT ns at' s hs w ht hw
  generalize fitsZ ns at' s = R at *
  go_enter Tryz.func91, Tryz.ntmps91
  go_wp2_with fail
  refine HC.out.mono ?_
  rintro e w2 ⟨rfl, b2⟩
  have B2 : Hid (Below w.heap.size w w2) := b2
  clear b2
  go_wp2
  go_ret
  exact ⟨rfl, B2.out⟩
set_option maxRecDepth 20000 in
set_option maxHeartbeats 1600000 in
theorem oneF (ns : List Nd) (oT : Option Addr) (capT : Nat) (at' : Int) (ss : List ByteArray) (o : Option Addr) (cap bT bA : Nat) (w : World) (hs : Hid (SizesOk ss)) (hw : Hid (HomeE w)) (ht : Hid (IsT w oT ns)) (hx : Hid (Texts.IsTx w o ss)) (hT : w.cell? ⟨bT, 0, none⟩ = some (.slice oT ns.length capT)) (hA : w.cell? ⟨bA, 0, none⟩ = some (.int .i64 at')) :
    Calls Tryz.prog 90 #[.slice o ss.length cap, .func (.func 91) #[] #[.pointer (some ⟨bT, 0, none⟩), .pointer (some ⟨bA, 0, none⟩)]] w fun r w' => r = .returned (.bool (fitAll ns at' ss)) ∧ Below w.heap.size w w' := by
  have HAL : Hid (fitAll ns at' ss = ss.all fun s => fitsZ ns at' s) := rfl
  have HST : Hid (∀ k v, k < ss.length → Below w.heap.size w v → Calls Tryz.prog 91 #[.int .i64 (k : Int), .string (ss.getD k ByteArray.empty), .pointer (some ⟨bT, 0, none⟩), .pointer (some ⟨bA, 0, none⟩)] v fun r w' => r = .returned (.bool (fitsZ ns at' (ss.getD k ByteArray.empty))) ∧ Below v.heap.size v w') := fun k v hk hv => fit1C ns oT capT at' _ _ bT bA v (hs.out k hk) (hw.out.later hv) (ht.out.later hv) (cell_later hv hT) (cell_later hv hA)
  have hlen := hx.out.1
  unfold maxLen at hlen
  generalize fitAll ns at' ss = R at *
  clear hT hA
  go_enter Tryz.func90, Tryz.ntmps90
  go_wp2_with fail
  go_loopw [5, 6, 9] (fun _ _ t wr => ∃ k : Nat, k ≤ ss.length ∧ t = .int .i64 (k : Int) ∧ (∀ j, j < k → fitsZ ns at' (ss.getD j ByteArray.empty) = true) ∧ Below w.heap.size w wr) (fun _ _ t _ => ss.length - (intOf t).toNat)
  case atStart => exact ⟨0, Nat.zero_le _, rfl, fun j hj => by omega, Below.refl _ _⟩
  case round =>
    obtain ⟨k, hk, rfl, hall, hbl⟩ := hrel
    have HALL : Hid (∀ j, j < k → fitsZ ns at' (ss.getD j ByteArray.empty) = true) := hall
    have BL : Hid (Below w.heap.size w wr) := hbl
    clear hall hbl
    by_cases hlt : k < ss.length
    · obtain ⟨y, rfl, hy⟩ := tx_at hx.out (by omega)
      have hcs := cell_later BL.out (hy k hlt)
      have i0 : (0 : Int) ≤ (k : Int) := Int.natCast_nonneg _
      have i1 : (k : Int) < ((ss.length : Nat) : Int) := by omega
      have HSK := HST.out k wr hlt BL.out
      have HSH : Hid (Calls Tryz.prog 91 #[.int .i64 (k : Int), .string (ss.getD k ByteArray.empty), .pointer (some ⟨bT, 0, none⟩), .pointer (some ⟨bA, 0, none⟩)] wr fun r w' => r = .returned (.bool (fitsZ ns at' (ss.getD k ByteArray.empty))) ∧ Below wr.heap.size wr w') := HSK
      have HNO : Hid (fitsZ ns at' (ss.getD k ByteArray.empty) = false → R = false) := fun h => by
        rw [HAL.out, List.all_eq_false]
        refine ⟨ss.getD k ByteArray.empty, ?_, by rw [h]; simp⟩
        rw [getD_get ss hlt]
        exact List.getElem_mem hlt
      have HYES : Hid (fitsZ ns at' (ss.getD k ByteArray.empty) = true → ∀ j, j < k + 1 → fitsZ ns at' (ss.getD j ByteArray.empty) = true) := fun h j hj => by
        by_cases c : j < k
        · exact HALL.out j c
        · obtain rfl : j = k := by omega
          exact h
      clear hy HSK
      generalize fitsZ ns at' (ss.getD k ByteArray.empty) = b at *
      generalize ss.getD k ByteArray.empty = s at *
      go_wp2_with fail
      refine HSH.out.mono ?_
      rintro e w4 ⟨rfl, b4⟩
      have B4 : Hid (Below w.heap.size w w4) := bel2 BL.out b4
      clear b4
      cases b
      · have HR : Hid (R = false) := HNO.out rfl
        clear HNO HYES
        go_wp2
        go_ret
        rw [HR.out]
        exact ⟨rfl, B4.out⟩
      · have HA2 : Hid (∀ j, j < k + 1 → fitsZ ns at' (ss.getD j ByteArray.empty) = true) := HYES.out rfl
        clear HNO HYES
        go_wp2
        go_roundw
        case rel => exact ⟨k + 1, by omega, by go_num, HA2.out, B4.out⟩
        case measure => simp [intOf]; omega
    · obtain rfl : k = ss.length := by omega
      have HR : Hid (R = true) := by
        rw [HAL.out, List.all_eq_true]
        intro s hsm
        obtain ⟨i, hi, rfl⟩ := List.getElem_of_mem hsm
        have := HALL.out i hi
        rwa [getD_get ss hi] at this
      go_wp2
      go_ret
      rw [HR.out]
      exact ⟨rfl, BL.out⟩
set_option maxRecDepth 20000 in
set_option maxHeartbeats 1600000 in
theorem fitW (ns : List Nd) (oT : Option Addr) (capT : Nat) (at' : Int) (ss : List ByteArray) (o : Option Addr) (cap : Nat) (w : World) (hs : Hid (SizesOk ss)) (hw : Hid (HomeE w)) (ht : Hid (IsT w oT ns)) (hx : Hid (Texts.IsTx w o ss)) :
    Calls Tryz.prog 59 #[.agg #[.slice oT ns.length capT], .int .i64 at', .slice o ss.length cap] w fun r w' => r = .returned (.bool (hasB ns at' && fitAll ns at' ss)) ∧ Below w.heap.size w w' := by
  obtain ⟨w1, e1, s1, c1, b1⟩ := boxed w (.slice oT ns.length capT) 24
  obtain ⟨w2, e2, s2, c2, b2⟩ := boxed w1 (.int .i64 at') 3
  have B2 : Hid (Below w.heap.size w w2) := bel2 b1 b2
  have c1b := cell_later b2 c1
  have HC2 : Hid (w2.cell? ⟨w.heap.size, 0, none⟩ = some (.slice oT ns.length capT)) := c1b
  have HA2 : Hid (w2.cell? ⟨w1.heap.size, 0, none⟩ = some (.int .i64 at')) := c2
  have HKP : Hid (Calls Tryz.prog 69 #[.agg #[.slice oT ns.length capT], .int .i64 at'] w2 fun r w' => ∃ o c, r = .returned (.tuple #[.slice o (kidsA ns at').length c, .int .i64 (errA (hasB ns at'))]) ∧ w'.ownsRow w2.heap.size 3 1 (.slice o (kidsA ns at').length c) (kidsA ns at').length (ints (kidsA ns at')) ∧ Below w2.heap.size w2 w') := kidsP oT capT ns at' w2 (ht.out.later B2.out)
  have HEO : Hid (∀ v, Below w2.heap.size w2 v → Calls Tryz.prog 90 #[.slice o ss.length cap, .func (.func 91) #[] #[.pointer (some ⟨w.heap.size, 0, none⟩), .pointer (some ⟨w1.heap.size, 0, none⟩)]] v fun r w' => r = .returned (.bool (fitAll ns at' ss)) ∧ Below v.heap.size v w') := fun v hv => oneF ns oT capT at' ss o cap w.heap.size w1.heap.size v hs (hw.out.later (bel2 B2.out hv)) (ht.out.later (bel2 B2.out hv)) (hx.out.later (bel2 B2.out hv)) (cell_later hv HC2.out) (cell_later hv HA2.out)
  generalize fitAll ns at' ss = FA at *
  generalize kidsA ns at' = KA at *
  clear b1 b2 s1 s2 c1
  cases hH : hasB ns at'
  · rw [hH] at HKP
    clear hH
    have HE : Hid (errA false = 500) := rfl
    rw [HE.out] at HKP
    go_enter Tryz.func59, Tryz.ntmps59
    go_wp2_with fail
    refine HKP.out.mono ?_
    rintro e w3 ⟨ok, kc, rfl, _, b3⟩
    have B3 : Hid (Below w.heap.size w w3) := bel2 B2.out b3
    clear b3
    go_wp2
    go_ret
    exact ⟨rfl, B3.out⟩
  · rw [hH] at HKP
    clear hH
    have HE : Hid (errA true = 0) := rfl
    rw [HE.out] at HKP
    go_enter Tryz.func59, Tryz.ntmps59
    go_wp2_with fail
    refine HKP.out.mono ?_
    rintro e w3 ⟨ok, kc, rfl, _, b3⟩
    have B3 : Hid (Below w.heap.size w w3) := bel2 B2.out b3
    have B23 : Hid (Below w2.heap.size w2 w3) := b3
    clear b3
    go_wp2_with fail
    refine (HEO.out w3 B23.out).mono ?_
    rintro e w4 ⟨rfl, b4⟩
    have B4 : Hid (Below w.heap.size w w4) := bel2 B3.out b4
    clear b4
    go_wp2
    go_ret
    exact ⟨by rw [Bool.true_and]; rfl, B4.out⟩
set_option maxRecDepth 20000 in
set_option maxHeartbeats 3200000 in
theorem buildP (B : Nat) (hB : 4096 ≤ B) (ns : List Nd) (oT : Option Addr) (capT : Nat) (at' : Int) (ss : List ByteArray) (o : Option Addr) (cap : Nat) (w : World) (hs : Hid (SizesOk ss)) (hw : Hid (HomeE w)) (hx : Hid (Texts.IsTx w o ss)) (ht : Hid (IsT w oT ns)) :
    Calls Tryz.prog 26 #[.agg #[.slice oT ns.length capT], .int .i64 at', .slice o ss.length cap] w (BdQ B ns at' ss w) := by
  obtain ⟨w1, e1, s1, c1, b1⟩ := boxed w (.slice oT ns.length capT) 24
  obtain ⟨w2, e2', x2, b2, z2⟩ := box7 w1 nil none 0
  have e2 : w1.alloc (.cells #[.int .i64 0, .int .i64 0, .int .i64 0, .string ⟨#[]⟩, .string ⟨#[]⟩, .string ⟨#[]⟩, .slice none 0 0] 27) = w2 := e2'
  have hS1 : w.heap.size < w1.heap.size := s1
  have B2 : Hid (Below w.heap.size w w2) := bel2 b1 b2
  have HCT : Hid (w2.cell? ⟨w.heap.size, 0, none⟩ = some (.slice oT ns.length capT)) := cell_later b2 c1
  have XR2 : Hid (Bx w2 w1.heap.size nil none 0) := x2
  have HFW : Hid (Calls Tryz.prog 59 #[.agg #[.slice oT ns.length capT], .int .i64 at', .slice o ss.length cap] w2 fun r w' => r = .returned (.bool (hasB ns at' && fitAll ns at' ss)) ∧ Below w2.heap.size w2 w') := fitW ns oT capT at' ss o cap w2 hs (hw.out.later B2.out) (ht.out.later B2.out) (hx.out.later B2.out)
  have cT := HCT.out
  clear e2' b1 b2 x2 z2 s1 c1
  go_enter Tryz.func26, Tryz.ntmps26
  go_wp2_with fail
  refine HFW.out.mono ?_
  rintro e w3 ⟨rfl, b3⟩
  have B3 : Hid (Below w.heap.size w w3) := bel2 B2.out b3
  have XR3 : Hid (Bx w3 w1.heap.size nil none 0) := XR2.out.later b3
  have HC3 : Hid (w3.cell? ⟨w.heap.size, 0, none⟩ = some (.slice oT ns.length capT)) := cell_later b3 HCT.out
  clear b3 cT e1 e2
  cases hH : (hasB ns at' && fitAll ns at' ss)
  · have HE : Hid (bdE ns at' ss = 1000) := by unfold Hid bdE; rw [hH]; rfl
    clear hH
    have u0 := XR3.out.c0
    have u1 := XR3.out.c1
    have u2 := XR3.out.c2
    have u3 := XR3.out.c3
    have u4 := XR3.out.c4
    have u5 := XR3.out.c5
    have u6 := XR3.out.c6
    have v0 := XR3.out.fz 0
    have v1 := XR3.out.fz 1
    have v2 := XR3.out.fz 2
    have v3 := XR3.out.fz 3
    have v4 := XR3.out.fz 4
    have v5 := XR3.out.fz 5
    have v6 := XR3.out.fz 6
    unfold nil at u0 u1 u2 u3 u4 u5 u6
    obtain ⟨w11, e11, x11, h11, b11⟩ := set7 XR3.out nil none 0
    have e11b : (((((((w3).setCell ⟨w1.heap.size, 0, none⟩ (.int .i64 0)).setCell ⟨w1.heap.size, 1, none⟩ (.int .i64 0)).setCell ⟨w1.heap.size, 2, none⟩ (.int .i64 0)).setCell ⟨w1.heap.size, 3, none⟩ (.string ⟨#[]⟩)).setCell ⟨w1.heap.size, 4, none⟩ (.string ⟨#[]⟩)).setCell ⟨w1.heap.size, 5, none⟩ (.string ⟨#[]⟩)).setCell ⟨w1.heap.size, 6, none⟩ (.slice none 0 0) = w11 := e11
    have HB11 : Hid (Below w.heap.size w w11) := B3.out.trans (b11 w.heap.size (by omega))
    have q0 := x11.c0
    have q1 := x11.c1
    have q2 := x11.c2
    have q3 := x11.c3
    have q4 := x11.c4
    have q5 := x11.c5
    have q6 := x11.c6
    unfold nil at q0 q1 q2 q3 q4 q5 q6
    have HQ : Hid (BdQ B ns at' ss w (.returned (.tuple #[.agg #[.int .i64 0, .int .i64 0, .int .i64 0, .string ⟨#[]⟩, .string ⟨#[]⟩, .string ⟨#[]⟩, .slice none 0 0], .int .i64 1000])) w11) := bd_no HE.out (by decide) HB11.out
    clear e11 x11 h11 b11
    go_wp2_with fail
    try rw [e11b]
    exact bodyPost_ret (v := .tuple #[.agg #[.int .i64 0, .int .i64 0, .int .i64 0, .string ⟨#[]⟩, .string ⟨#[]⟩, .string ⟨#[]⟩, .slice none 0 0], .int .i64 1000]) (by simp [results, Tryz.results26, go_sem, q0, q1, q2, q3, q4, q5, q6] <;> rfl) rfl HQ.out
  · have hH' := hH
    rw [Bool.and_eq_true] at hH'
    have HH : Hid (hasB ns at' = true) := hH'.1
    have HFA : Hid (fitAll ns at' ss = true) := hH'.2
    clear hH hH'
    obtain ⟨n, rfl, hn, hm⟩ : ∃ n : Nat, at' = (n : Int) ∧ n < ns.length ∧ may ns = true := by
      obtain ⟨n, e, hn, _⟩ := has_of HH.out
      have := HH.out
      unfold hasB at this
      rw [Bool.and_eq_true] at this
      exact ⟨n, e, hn, this.2⟩
    have hmost := (may_of hm).most
    have HBC : Hid (Calls Tryz.prog 60 #[.agg #[.slice oT ns.length capT], .int .i64 (n : Int), .slice o ss.length cap] w3 (BuildG B 8 (buildF ns 8 n (ss.map bl)) w3)) := arrayAll B hB 8 ns oT capT n 8 ss o cap w3 hn hm (by omega) (by omega) (fit_all HH.out HFA.out) (hw.out.later B3.out) (hx.out.later B3.out) (ht.out.later B3.out)
    have HEE : Hid (bdE ns (n : Int) ss = if (buildF ns 8 n (ss.map bl)).isSome then 0 else 1001) := by unfold Hid bdE; rw [HH.out, HFA.out]; rfl
    have HAA : Hid (bdA ns (n : Int) ss = if bdE ns (n : Int) ss = 0 then (buildF ns 8 n (ss.map bl)).getD nil else nil) := rfl
    generalize buildF ns 8 n (ss.map bl) = bf at *
    have cT := HC3.out
    go_wp2_with fail
    refine HBC.out.mono ?_
    rintro e w4 ⟨X, o8, c8, rfl, b4, hX⟩
    have HX : Hid (bf.isSome = true → bf = some X ∧ HoldsO B w4 8 (fun b => w3.heap.size ≤ b) (X.cells o8 c8) X) := hX
    have B4 : Hid (Below w.heap.size w w4) := bel2 B3.out b4
    have XR4 : Hid (Bx w4 w1.heap.size nil none 0) := XR3.out.later b4
    obtain ⟨w5, e5', x5, b5, z5⟩ := box7 w4 nil none 0
    have e5 : w4.alloc (.cells #[.int .i64 0, .int .i64 0, .int .i64 0, .string ⟨#[]⟩, .string ⟨#[]⟩, .string ⟨#[]⟩, .slice none 0 0] 27) = w5 := e5'
    have hS4 : w1.heap.size < w4.heap.size := XR4.out.lt
    have XR5 := XR4.out.later b5
    have m0 := x5.c0
    have m1 := x5.c1
    have m2 := x5.c2
    have m3 := x5.c3
    have m4 := x5.c4
    have m5 := x5.c5
    have m6 := x5.c6
    have f0 := x5.fz 0
    have f1 := x5.fz 1
    have f2 := x5.fz 2
    have f3 := x5.fz 3
    have f4 := x5.fz 4
    have f5 := x5.fz 5
    have f6 := x5.fz 6
    unfold nil at m0 m1 m2 m3 m4 m5 m6
    obtain ⟨w6, e6, x6, h6, b6⟩ := set7 x5 X o8 c8
    have X6 : Hid (Bx w6 w4.heap.size X o8 c8) := x6
    have XR6 : Hid (Bx w6 w1.heap.size nil none 0) := ⟨(h6 _ (by omega)).trans XR5.blk⟩
    have B46 : Hid (Below w4.heap.size w4 w6) := b5.trans (b6 _ (Nat.le_refl _))
    have B6 : Hid (Below w.heap.size w w6) := bel2 B4.out B46.out
    unfold Arr.val
    clear e5' hX b4 x5 b5 z5 x6 h6 b6 XR5 cT
    go_upto_region 4 with fail
    try rw [e6]
    clear m0 m1 m2 m3 m4 m5 m6 f0 f1 f2 f3 f4 f5 f6 e5 e6
    cases hS : bf.isSome
    · have HE : Hid (bdE ns (n : Int) ss = 1001) := by rw [HEE.out, hS]; rfl
      clear hS
      have u0 := XR6.out.c0
      have u1 := XR6.out.c1
      have u2 := XR6.out.c2
      have u3 := XR6.out.c3
      have u4 := XR6.out.c4
      have u5 := XR6.out.c5
      have u6 := XR6.out.c6
      have v0 := XR6.out.fz 0
      have v1 := XR6.out.fz 1
      have v2 := XR6.out.fz 2
      have v3 := XR6.out.fz 3
      have v4 := XR6.out.fz 4
      have v5 := XR6.out.fz 5
      have v6 := XR6.out.fz 6
      unfold nil at u0 u1 u2 u3 u4 u5 u6
      obtain ⟨w11, e11, x11, h11, b11⟩ := set7 XR6.out nil none 0
      have e11b : (((((((w6).setCell ⟨w1.heap.size, 0, none⟩ (.int .i64 0)).setCell ⟨w1.heap.size, 1, none⟩ (.int .i64 0)).setCell ⟨w1.heap.size, 2, none⟩ (.int .i64 0)).setCell ⟨w1.heap.size, 3, none⟩ (.string ⟨#[]⟩)).setCell ⟨w1.heap.size, 4, none⟩ (.string ⟨#[]⟩)).setCell ⟨w1.heap.size, 5, none⟩ (.string ⟨#[]⟩)).setCell ⟨w1.heap.size, 6, none⟩ (.slice none 0 0) = w11 := e11
      have HB11 : Hid (Below w.heap.size w w11) := B6.out.trans (b11 w.heap.size (by omega))
      have q0 := x11.c0
      have q1 := x11.c1
      have q2 := x11.c2
      have q3 := x11.c3
      have q4 := x11.c4
      have q5 := x11.c5
      have q6 := x11.c6
      unfold nil at q0 q1 q2 q3 q4 q5 q6
      have HQ : Hid (BdQ B ns (n : Int) ss w (.returned (.tuple #[.agg #[.int .i64 0, .int .i64 0, .int .i64 0, .string ⟨#[]⟩, .string ⟨#[]⟩, .string ⟨#[]⟩, .slice none 0 0], .int .i64 1001])) w11) := bd_no HE.out (by decide) HB11.out
      clear e11 x11 h11 b11
      go_wp2_with fail
      try rw [e11b]
      exact bodyPost_ret (v := .tuple #[.agg #[.int .i64 0, .int .i64 0, .int .i64 0, .string ⟨#[]⟩, .string ⟨#[]⟩, .string ⟨#[]⟩, .slice none 0 0], .int .i64 1001]) (by simp [results, Tryz.results26, go_sem, q0, q1, q2, q3, q4, q5, q6] <;> rfl) rfl HQ.out
    · obtain ⟨hbf, hho⟩ := HX.out hS
      have HE : Hid (bdE ns (n : Int) ss = 0) := by rw [HEE.out, hS]; rfl
      have HAX : Hid (bdA ns (n : Int) ss = X) := by rw [HAA.out, HE.out, hbf]; rfl
      have HHO : Hid (HoldsO B w4 8 (fun b => w3.heap.size ≤ b) (X.cells o8 c8) X) := hho
      clear hS hbf hho
      have y0 := X6.out.c0
      have y1 := X6.out.c1
      have y2 := X6.out.c2
      have y3 := X6.out.c3
      have y4 := X6.out.c4
      have y5 := X6.out.c5
      have y6 := X6.out.c6
      have u0 := XR6.out.c0
      have u1 := XR6.out.c1
      have u2 := XR6.out.c2
      have u3 := XR6.out.c3
      have u4 := XR6.out.c4
      have u5 := XR6.out.c5
      have u6 := XR6.out.c6
      have v0 := XR6.out.fz 0
      have v1 := XR6.out.fz 1
      have v2 := XR6.out.fz 2
      have v3 := XR6.out.fz 3
      have v4 := XR6.out.fz 4
      have v5 := XR6.out.fz 5
      have v6 := XR6.out.fz 6
      unfold nil at u0 u1 u2 u3 u4 u5 u6
      obtain ⟨w11, e11, x11, h11, b11⟩ := set7 XR6.out X o8 c8
      have e11b : (((((((w6).setCell ⟨w1.heap.size, 0, none⟩ (.int .i64 X.layout)).setCell ⟨w1.heap.size, 1, none⟩ (.int .i64 X.offset)).setCell ⟨w1.heap.size, 2, none⟩ (.int .i64 X.length)).setCell ⟨w1.heap.size, 3, none⟩ (.string X.valid)).setCell ⟨w1.heap.size, 4, none⟩ (.string X.ends)).setCell ⟨w1.heap.size, 5, none⟩ (.string X.data)).setCell ⟨w1.heap.size, 6, none⟩ (.slice o8 X.kids.length c8) = w11 := e11
      have HB11 : Hid (Below w.heap.size w w11) := B6.out.trans (b11 w.heap.size (by omega))
      have q0 := x11.c0
      have q1 := x11.c1
      have q2 := x11.c2
      have q3 := x11.c3
      have q4 := x11.c4
      have q5 := x11.c5
      have q6 := x11.c6
      have HHN : Hid (HoldsO B w11 8 (fun b => w.heap.size ≤ b) (X.cells o8 c8) X) := HHO.out.lt.stays (fun b hb => by
        have hb1 : w3.heap.size ≤ b := hb.1
        have hb2 : b < w4.heap.size := hb.2
        have h3 := XR3.out.lt
        rw [h11 b (by omega), B46.out.block b hb2]) (fun b hb => by
        have hb1 : w3.heap.size ≤ b := hb.1
        have h3 := B3.out.size
        omega)
      have HQ : Hid (BdQ B ns (n : Int) ss w (.returned (.tuple #[.agg #[.int .i64 X.layout, .int .i64 X.offset, .int .i64 X.length, .string X.valid, .string X.ends, .string X.data, .slice o8 X.kids.length c8], .int .i64 0])) w11) := ⟨o8, c8, by rw [HAX.out, HE.out]; rfl, by rw [HAX.out]; exact HHN.out, HB11.out⟩
      clear e11 x11 h11 b11
      go_wp2_with fail
      try rw [e11b]
      exact bodyPost_ret (v := .tuple #[.agg #[.int .i64 X.layout, .int .i64 X.offset, .int .i64 X.length, .string X.valid, .string X.ends, .string X.data, .slice o8 X.kids.length c8], .int .i64 0]) (by simp [results, Tryz.results26, go_sem, q0, q1, q2, q3, q4, q5, q6] <;> rfl) rfl HQ.out
end Go.Proofs.YtcpfhfdgfcilaaaGreatDoor.Arr
set_option linter.unusedVariables false
set_option linter.unusedSimpArgs false
namespace Go.Proofs.YtcpfhfdgfcilaaaGreatDoor.Arr
open Go.ChangeShapes Go.WideShapes Go.ChangeAt Go.RowKit
open Tree Val Sums

def awT : List Nd := [⟨4, -1, true⟩, ⟨2, 0, false⟩]
def awV : List ByteArray := [⟨#[123, 115, 50, 58, 97, 98, 125]⟩, ⟨#[110]⟩, ⟨#[123, 115, 49, 58, 99, 125]⟩]
def awI : List ByteArray := [⟨#[105, 53, 59]⟩]
def awM (k : Nat) : List ByteArray := List.replicate k ⟨#[110]⟩
def awK : Arr := ⟨0, 0, 3, ⟨#[]⟩, ⟨#[0, 0, 0, 0, 2, 0, 0, 0, 2, 0, 0, 0, 3, 0, 0, 0]⟩, ⟨#[97, 98, 99]⟩, []⟩
def awA : Arr := ⟨0, 0, 3, ⟨#[5]⟩, ⟨#[]⟩, ⟨#[]⟩, [awK]⟩
theorem awV_e : bdE awT 0 awV = 0 := by decide +kernel
theorem awV_a : bdA awT 0 awV = awA := by kernel_rfl
theorem awI_e : bdE awT 0 awI = 1000 := by decide +kernel
theorem awN_e : bdE awT 2 [] = 1000 := by decide +kernel
theorem awM_e : bdE awT 0 (awM 65) = 1001 := by decide +kernel
theorem bd_nil {ns : List Nd} {at' : Int} {ss : List ByteArray} (h : bdE ns at' ss ≠ 0) : bdA ns at' ss = nil := by unfold bdA; rw [if_neg h]
theorem sizes_of (ss : List ByteArray) (h : ∀ s ∈ ss, s.size ≤ 9223372036854775807) : SizesOk ss := fun k hk => by
  rw [getD_get ss hk]
  exact h _ (List.getElem_mem hk)
theorem awK_ok (B : Nat) (hB : 4096 ≤ B) : awK.ok B := ⟨by decide, by decide, by decide, Nat.le_trans (by decide) hB, Nat.le_trans (by decide) hB, Nat.le_trans (by decide) hB⟩
theorem awA_ok (B : Nat) (hB : 4096 ≤ B) : awA.ok B := ⟨by decide, by decide, by decide, Nat.le_trans (by decide) hB, Nat.le_trans (by decide) hB, Nat.le_trans (by decide) hB⟩
theorem awA_holds {B : Nat} (hB : 4096 ≤ B) {w : World} {g : Nat} (h : w.heap[g]? = some (.cells #[.int .i64 0, .int .i64 0, .int .i64 3, .string ⟨#[]⟩, .string ⟨#[0, 0, 0, 0, 2, 0, 0, 0, 2, 0, 0, 0, 3, 0, 0, 0]⟩, .string ⟨#[97, 98, 99]⟩, .slice none 0 0] 27)) : HoldsF B 96 w 8 (awA.cells (some ⟨g, 0, none⟩) 1) awA := by
  refine ⟨_, _, rfl, awA_ok B hB, Nat.le_refl _, (by show 1 * 96 ≤ B; omega), by decide, .inr ⟨_, rfl, fun i hi => ?_⟩⟩
  have hi : i < 1 := hi
  obtain rfl : i = 0 := by omega
  refine ⟨awK.cells none 0, rfl, fun j hj => ?_, ⟨none, 0, rfl, awK_ok B hB, Nat.zero_le _, by simp, Nat.zero_le _, .inl ⟨rfl, rfl, rfl⟩⟩⟩
  rw [add0, Nat.zero_mul, Nat.zero_add]
  simp only [World.cell?, h]
  match j, hj with
  | 0, _ => rfl
  | 1, _ => rfl
  | 2, _ => rfl
  | 3, _ => rfl
  | 4, _ => rfl
  | 5, _ => rfl
  | 6, _ => rfl
theorem awT_lies {w : World} {g : Nat} (h : w.heap[g]? = some (.cells #[.int .i64 4, .int .i64 (-1), .bool true, .int .i64 2, .int .i64 0, .bool false] 40)) : Lies w ⟨g, 0, none⟩ awT := by
  have hc : ∀ (j : Nat) v, (#[.int .i64 4, .int .i64 (-1), .bool true, .int .i64 2, .int .i64 0, .bool false] : Array Value)[j]? = some v → w.cell? ⟨g, j, none⟩ = some v := fun j v hv => by simp only [World.cell?, h]; exact hv
  constructor
  · intro i hi
    have hi : i < 2 := hi
    rw [add0]
    match i, hi with
    | 0, _ => exact hc 0 _ rfl
    | 1, _ => exact hc 3 _ rfl
  · intro i hi
    have hi : i < 2 := hi
    match i, hi with
    | 0, _ => exact hc 1 _ rfl
    | 1, _ => exact hc 4 _ rfl
  · intro i hi
    have hi : i < 2 := hi
    match i, hi with
    | 0, _ => exact hc 2 _ rfl
    | 1, _ => exact hc 5 _ rfl
set_option maxRecDepth 20000 in
set_option maxHeartbeats 1600000 in
theorem manyC (n : Nat) (hn : n ≤ 4096) (w : World) : Calls Tryz.prog 33 #[.int .i64 (n : Int)] w fun r w' => ∃ o c, r = .returned (.slice o n c) ∧ Texts.IsTx w' o (awM n) ∧ Below w.heap.size w w' := by
  obtain ⟨i9, hi, hz0, hz1, hz2⟩ := info_parts info9
  have i0 : (0 : Int) ≤ (n : Int) := Int.natCast_nonneg _
  go_enter Tryz.func33, Tryz.ntmps33
  go_wp2_with fail
  go_loopw [3, 4] (fun v t wr => ∃ (k : Nat) (ov : Option Addr) (cv : Nat), k ≤ n ∧ t = .int .i64 (k : Int) ∧ v = .slice ov k cv ∧ wr.ownsRow w.heap.size 9 1 (.slice ov k cv) k (Texts.cellsT (awM k)) ∧ Below w.heap.size w wr) (fun _ t _ => n - (intOf t).toNat)
  case atStart => exact ⟨0, none, 0, Nat.zero_le _, rfl, rfl, World.ownsRow_nil _ _ _ _, Below.refl _ _⟩
  case round =>
    obtain ⟨k, ov, cv, hk, rfl, rfl, hown, hbl⟩ := hrel
    have HOWN : Hid (wr.ownsRow w.heap.size 9 1 (.slice ov k cv) k (Texts.cellsT (awM k))) := hown
    have BL : Hid (Below w.heap.size w wr) := hbl
    clear hown hbl
    have k0 : (0 : Int) ≤ (k : Int) := Int.natCast_nonneg _
    by_cases hlt : k < n
    · have hz := BL.out.size
      have hown := HOWN.out
      have HSN : Hid (Texts.cellsT (awM (k + 1)) = Texts.cellsT (awM k) ++ [.string ⟨#[110]⟩]) := by
        unfold Hid awM
        rw [List.replicate_succ', Texts.cellsT_snoc]
      go_wp2_with (at_builtin; refine wpList_append_own _ rfl (.tmp 10) (.tmp 11) 29 rfl w.heap.size 9 i9 (.string ⟨#[]⟩) 1 16 Tryz.underlying29 hi hz0 hz1 hz2 rfl (by decide) _ k _ rfl (hown.alloc _) ⟨wr.heap.size, 0, none⟩ 1 1 [.string ⟨#[110]⟩] rfl rfl ?c1 ?c2 ?c3 ?c4 ?c5 ?_)
      case c1 =>
        intro j u hj
        match j, hj with
        | 0, hj => simp at hj; subst hj; simp [Addr.add]
      case c2 => intro u hu; simp at hu; subst hu; rfl
      case c3 => unfold maxLen; omega
      case c4 => omega
      case c5 => simp; omega
      intro u6 w6 hown6 hgrow _
      have B6 : Hid (Below w.heap.size w w6) := (BL.out.alloc hz _).grown hgrow (by simp; omega) (fun j hj => (hown.lt j hj).1)
      obtain ⟨o6, c6, rfl⟩ := ownsRow_len hown6
      have HO6 : Hid (w6.ownsRow w.heap.size 9 1 (.slice o6 (k + 1) c6) (k + 1) (Texts.cellsT (awM (k + 1)))) := by
        unfold Hid
        rw [HSN.out]
        exact hown6
      clear hown6 hgrow hown
      go_wp2
      go_roundw
      case rel => exact ⟨k + 1, o6, c6, by omega, by go_num, rfl, HO6.out, B6.out⟩
      case measure => simp [intOf]; omega
    · obtain rfl : k = n := by omega
      go_wp2
      go_ret
      exact ⟨ov, cv, rfl, own_textsN HOWN.out (by simp [awM]), BL.out⟩
set_option maxRecDepth 20000 in
set_option maxHeartbeats 6400000 in
theorem awakeB (w : World) (hw : Hid (HomeE w)) : Calls Tryz.prog 31 #[] w fun r w' => r = .returned (.bool true) ∧ Below w.heap.size w w' := by
  obtain ⟨w1, e1, hT1, b1⟩ : ∃ w1, w.alloc (.cells #[.int .i64 4, .int .i64 (-1), .bool true, .int .i64 2, .int .i64 0, .bool false] 40) = w1 ∧ w1.heap[w.heap.size]? = some (.cells #[.int .i64 4, .int .i64 (-1), .bool true, .int .i64 2, .int .i64 0, .bool false] 40) ∧ Below w.heap.size w w1 := ⟨_, rfl, heap_alloc_new _ _, (Below.refl _ _).alloc (Nat.le_refl _) _⟩
  obtain ⟨w2, e2, s2, c2, b2⟩ := boxed w1 (.slice none 0 0) 24
  have hf2 : w2.heap[w1.heap.size]? = some (.cells #[.slice none 0 0] 24) := by rw [← e2]; exact heap_alloc_new _ _
  have z2 : w2.frozen? ⟨w1.heap.size, 0, none⟩ = false := by simp [World.frozen?, hf2]
  obtain ⟨w3, e3⟩ : ∃ w3, w2.setCell ⟨w1.heap.size, 0, none⟩ (.slice (some ⟨w.heap.size, 0, none⟩) 2 2) = w3 := ⟨_, rfl⟩
  have b13 : Below w1.heap.size w1 w3 := by rw [← e3]; exact b2.setCell (Nat.le_refl _) _
  have HT3 : Hid (w3.cell? ⟨w1.heap.size, 0, none⟩ = some (.slice (some ⟨w.heap.size, 0, none⟩) 2 2)) := by
    have := blk_set hf2 0 (.slice (some ⟨w.heap.size, 0, none⟩) 2 2)
    rw [e3] at this
    unfold Hid
    simp [World.cell?, this]
  have B3 : Hid (Below w.heap.size w w3) := bel2 b1 b13
  have HI3 : Hid (IsT w3 (some ⟨w.heap.size, 0, none⟩) awT) := ⟨by decide, .inr ⟨_, rfl, (awT_lies hT1).later b13⟩⟩
  have HBU : Hid (∀ (v : World) (at' : Int) (ss : List ByteArray) (o : Option Addr) (c : Nat), Below w3.heap.size w3 v → SizesOk ss → Texts.IsTx v o ss → Calls Tryz.prog 26 #[.agg #[.slice (some ⟨w.heap.size, 0, none⟩) 2 2], .int .i64 at', .slice o ss.length c] v (BdQ 4096 awT at' ss v)) := fun v at' ss o c hv h1 h2 => buildP 4096 (Nat.le_refl _) awT (some ⟨w.heap.size, 0, none⟩) 2 at' ss o c v h1 (hw.out.later (bel2 B3.out hv)) h2 (HI3.out.later hv)
  have HV : Hid (∀ (v : World) (o : Option Addr) (c : Nat), Below w3.heap.size w3 v → Texts.IsTx v o awV → Calls Tryz.prog 26 #[.agg #[.slice (some ⟨w.heap.size, 0, none⟩) 2 2], .int .i64 0, .slice o 3 c] v fun r w' => ∃ o' c', r = .returned (.tuple #[awA.val o' c', .int .i64 0]) ∧ HoldsF (upB 4096) 96 w' 8 (awA.cells o' c') awA ∧ Below v.heap.size v w') := fun v o c hv h2 => by
    refine (HBU.out v 0 awV o c hv (sizes_of _ (by decide)) h2).mono ?_
    rintro e w' ⟨o', c', h1, h2, h3⟩
    rw [awV_e, awV_a] at h1
    rw [awV_a] at h2
    exact ⟨o', c', h1, h2.holds, h3⟩
  have HNIL : Hid (∀ (v : World) (at' : Int) (ss : List ByteArray) (o : Option Addr) (c : Nat) (E : Int), Below w3.heap.size w3 v → SizesOk ss → Texts.IsTx v o ss → bdE awT at' ss = E → E ≠ 0 → Calls Tryz.prog 26 #[.agg #[.slice (some ⟨w.heap.size, 0, none⟩) 2 2], .int .i64 at', .slice o ss.length c] v fun r w' => ∃ o' c', r = .returned (.tuple #[.agg #[.int .i64 0, .int .i64 0, .int .i64 0, .string ⟨#[]⟩, .string ⟨#[]⟩, .string ⟨#[]⟩, .slice o' 0 c'], .int .i64 E]) ∧ Below v.heap.size v w') := fun v at' ss o c E hv h1 h2 he h0 => by
    refine (HBU.out v at' ss o c hv h1 h2).mono ?_
    rintro e w' ⟨o', c', h3, _, h5⟩
    have hA : bdA awT at' ss = nil := bd_nil (by rw [he]; exact h0)
    rw [he, hA] at h3
    exact ⟨o', c', h3, h5⟩
  have HLOOK : Hid (∀ v, Below w3.heap.size w3 v → v.cell? ⟨w1.heap.size, 0, none⟩ = some (.slice (some ⟨w.heap.size, 0, none⟩) 2 2)) := fun v hv => cell_later hv HT3.out
  -- the texts
  obtain ⟨w4, e4', ht4, b4⟩ := tx_lit w3 awV (by decide)
  have e4 : w3.alloc (.cells #[.string ⟨#[123, 115, 50, 58, 97, 98, 125]⟩, .string ⟨#[110]⟩, .string ⟨#[123, 115, 49, 58, 99, 125]⟩] 9) = w4 := e4'
  have B34 : Hid (Below w3.heap.size w3 w4) := b4
  have HT4 : Hid (Texts.IsTx w4 (some ⟨w3.heap.size, 0, none⟩) awV) := ht4
  have cT3 := HT3.out
  clear hT1 b1 b2 hf2 s2 b13 e4' ht4 b4 HBU HI3
  go_enter Tryz.func31, Tryz.ntmps31
  go_upto_region 2 with fail
  try rw [e3]
  clear e1 e2 e3 c2 z2
  go_wp2_with fail
  try rw [e4]
  refine (HV.out w4 (some ⟨w3.heap.size, 0, none⟩) 3 B34.out HT4.out).mono ?_
  rintro e w5 ⟨oA, cA, rfl, hA5, b5⟩
  have B35 : Hid (Below w3.heap.size w3 w5) := bel2 B34.out b5
  have HA5 : Hid (HoldsF (upB 4096) 96 w5 8 (awA.cells oA cA) awA) := hA5
  clear hA5 b5 cT3 e4 HT4
  obtain ⟨w6, ew6', xw6, bw6, zw6⟩ := box7 w5 nil none 0
  have ew6 : w5.alloc (.cells #[.int .i64 0, .int .i64 0, .int .i64 0, .string ⟨#[]⟩, .string ⟨#[]⟩, .string ⟨#[]⟩, .slice none 0 0] 27) = w6 := ew6'
  have m0 := xw6.c0
  have m1 := xw6.c1
  have m2 := xw6.c2
  have m3 := xw6.c3
  have m4 := xw6.c4
  have m5 := xw6.c5
  have m6 := xw6.c6
  have f0 := xw6.fz 0
  have f1 := xw6.fz 1
  have f2 := xw6.fz 2
  have f3 := xw6.fz 3
  have f4 := xw6.fz 4
  have f5 := xw6.fz 5
  have f6 := xw6.fz 6
  unfold nil at m0 m1 m2 m3 m4 m5 m6
  obtain ⟨w7, ew7', xw7, hw7, kw7⟩ := set7 xw6 awA oA cA
  have ew7 := ew7'
  have B37 : Hid (Below w3.heap.size w3 w7) := bel2 B35.out (bw6.trans (kw7 _ (Nat.le_refl _)))
  have B57 : Hid (Below w5.heap.size w5 w7) := bw6.trans (kw7 _ (Nat.le_refl _))
  have XA7 : Hid (Bx w7 w5.heap.size awA oA cA) := xw7
  unfold Arr.val
  go_upto_region 3 with fail
  try rw [ew7]
  clear ew6 ew6' xw6 bw6 zw6 m0 m1 m2 m3 m4 m5 m6 f0 f1 f2 f3 f4 f5 f6 ew7 ew7' xw7 hw7 kw7
  have HNIL7 : Hid (∀ (v : World) (at' : Int) (ss : List ByteArray) (o : Option Addr) (c : Nat) (E : Int), Below w7.heap.size w7 v → SizesOk ss → Texts.IsTx v o ss → bdE awT at' ss = E → E ≠ 0 → Calls Tryz.prog 26 #[.agg #[.slice (some ⟨w.heap.size, 0, none⟩) 2 2], .int .i64 at', .slice o ss.length c] v fun r w' => ∃ o' c', r = .returned (.tuple #[.agg #[.int .i64 0, .int .i64 0, .int .i64 0, .string ⟨#[]⟩, .string ⟨#[]⟩, .string ⟨#[]⟩, .slice o' 0 c'], .int .i64 E]) ∧ Below v.heap.size v w') := fun v at' ss o c E hv h1 h2 h3 h4 => HNIL.out v at' ss o c E (bel2 B37.out hv) h1 h2 h3 h4
  have HLOOK7 : Hid (∀ v, Below w7.heap.size w7 v → v.cell? ⟨w1.heap.size, 0, none⟩ = some (.slice (some ⟨w.heap.size, 0, none⟩) 2 2)) := fun v hv => HLOOK.out v (bel2 B37.out hv)
  have HA7 : Hid (HoldsF (upB 4096) 96 w7 8 (awA.cells oA cA) awA) := HA5.out.later B57.out
  have B7 : Hid (Below w.heap.size w w7) := bel2 B3.out B37.out
  clear HNIL HLOOK HA5
  obtain ⟨w8, e8', ht8, b8⟩ := tx_lit w7 awI (by decide)
  have e8 : w7.alloc (.cells #[.string ⟨#[105, 53, 59]⟩] 9) = w8 := e8'
  have B38 : Hid (Below w7.heap.size w7 w8) := b8
  have HT8 : Hid (Texts.IsTx w8 (some ⟨w7.heap.size, 0, none⟩) awI) := ht8
  have HC8 : Hid (Calls Tryz.prog 26 #[.agg #[.slice (some ⟨w.heap.size, 0, none⟩) 2 2], .int .i64 0, .slice (some ⟨w7.heap.size, 0, none⟩) 1 1] w8 fun r w' => ∃ o' c', r = .returned (.tuple #[.agg #[.int .i64 0, .int .i64 0, .int .i64 0, .string ⟨#[]⟩, .string ⟨#[]⟩, .string ⟨#[]⟩, .slice o' 0 c'], .int .i64 1000]) ∧ Below w8.heap.size w8 w') := HNIL7.out w8 0 awI _ 1 1000 B38.out (sizes_of _ (by decide)) HT8.out awI_e (by decide)
  have cT := HLOOK7.out w7 (Below.refl _ _)
  clear e8' ht8 b8
  go_wp2_with fail
  try rw [e8]
  refine HC8.out.mono ?_
  rintro e w9 ⟨o9, c9, rfl, b9⟩
  have B39 : Hid (Below w7.heap.size w7 w9) := bel2 B38.out b9
  clear b9 e8 cT HC8 HT8
  obtain ⟨wa, ewa', xwa, bwa, zwa⟩ := box7 w9 nil none 0
  have ewa : w9.alloc (.cells #[.int .i64 0, .int .i64 0, .int .i64 0, .string ⟨#[]⟩, .string ⟨#[]⟩, .string ⟨#[]⟩, .slice none 0 0] 27) = wa := ewa'
  have m0 := xwa.c0
  have m1 := xwa.c1
  have m2 := xwa.c2
  have m3 := xwa.c3
  have m4 := xwa.c4
  have m5 := xwa.c5
  have m6 := xwa.c6
  have f0 := xwa.fz 0
  have f1 := xwa.fz 1
  have f2 := xwa.fz 2
  have f3 := xwa.fz 3
  have f4 := xwa.fz 4
  have f5 := xwa.fz 5
  have f6 := xwa.fz 6
  unfold nil at m0 m1 m2 m3 m4 m5 m6
  obtain ⟨wb, ewb', xwb, hwb, kwb⟩ := set7 xwa nil o9 c9
  have ewb : (((((((wa).setCell ⟨w9.heap.size, 0, none⟩ (.int .i64 0)).setCell ⟨w9.heap.size, 1, none⟩ (.int .i64 0)).setCell ⟨w9.heap.size, 2, none⟩ (.int .i64 0)).setCell ⟨w9.heap.size, 3, none⟩ (.string ⟨#[]⟩)).setCell ⟨w9.heap.size, 4, none⟩ (.string ⟨#[]⟩)).setCell ⟨w9.heap.size, 5, none⟩ (.string ⟨#[]⟩)).setCell ⟨w9.heap.size, 6, none⟩ (.slice o9 0 c9) = wb := ewb'
  have B3b : Hid (Below w7.heap.size w7 wb) := bel2 B39.out (bwa.trans (kwb _ (Nat.le_refl _)))
  go_upto_region 4 with fail
  try rw [ewb]
  clear ewa ewa' xwa bwa zwa m0 m1 m2 m3 m4 m5 m6 f0 f1 f2 f3 f4 f5 f6 ewb ewb' xwb hwb kwb
  have HCB : Hid (Calls Tryz.prog 26 #[.agg #[.slice (some ⟨w.heap.size, 0, none⟩) 2 2], .int .i64 2, .slice none 0 0] wb fun r w' => ∃ o' c', r = .returned (.tuple #[.agg #[.int .i64 0, .int .i64 0, .int .i64 0, .string ⟨#[]⟩, .string ⟨#[]⟩, .string ⟨#[]⟩, .slice o' 0 c'], .int .i64 1000]) ∧ Below wb.heap.size wb w') := HNIL7.out wb 2 [] none 0 1000 B3b.out (sizes_of _ (by decide)) ⟨by decide, .inl rfl⟩ awN_e (by decide)
  have cT := HLOOK7.out wb B3b.out
  go_wp2_with fail
  refine HCB.out.mono ?_
  rintro e wg ⟨oc, cc, rfl, bc⟩
  have B3c : Hid (Below w7.heap.size w7 wg) := bel2 B3b.out bc
  clear bc cT HCB
  obtain ⟨wd, ewd', xwd, bwd, zwd⟩ := box7 wg nil none 0
  have ewd : wg.alloc (.cells #[.int .i64 0, .int .i64 0, .int .i64 0, .string ⟨#[]⟩, .string ⟨#[]⟩, .string ⟨#[]⟩, .slice none 0 0] 27) = wd := ewd'
  have m0 := xwd.c0
  have m1 := xwd.c1
  have m2 := xwd.c2
  have m3 := xwd.c3
  have m4 := xwd.c4
  have m5 := xwd.c5
  have m6 := xwd.c6
  have f0 := xwd.fz 0
  have f1 := xwd.fz 1
  have f2 := xwd.fz 2
  have f3 := xwd.fz 3
  have f4 := xwd.fz 4
  have f5 := xwd.fz 5
  have f6 := xwd.fz 6
  unfold nil at m0 m1 m2 m3 m4 m5 m6
  obtain ⟨we, ewe', xwe, hwe, kwe⟩ := set7 xwd nil oc cc
  have ewe : (((((((wd).setCell ⟨wg.heap.size, 0, none⟩ (.int .i64 0)).setCell ⟨wg.heap.size, 1, none⟩ (.int .i64 0)).setCell ⟨wg.heap.size, 2, none⟩ (.int .i64 0)).setCell ⟨wg.heap.size, 3, none⟩ (.string ⟨#[]⟩)).setCell ⟨wg.heap.size, 4, none⟩ (.string ⟨#[]⟩)).setCell ⟨wg.heap.size, 5, none⟩ (.string ⟨#[]⟩)).setCell ⟨wg.heap.size, 6, none⟩ (.slice oc 0 cc) = we := ewe'
  have B3e : Hid (Below w7.heap.size w7 we) := bel2 B3c.out (bwd.trans (kwe _ (Nat.le_refl _)))
  go_upto_region 5 with fail
  try rw [ewe]
  clear ewd ewd' xwd bwd zwd m0 m1 m2 m3 m4 m5 m6 f0 f1 f2 f3 f4 f5 f6 ewe ewe' xwe hwe kwe
  have BE0 : Hid (Below we.heap.size we we) := Below.refl _ _
  have KLA : Hid (∀ W', Below we.heap.size we W' → W'.cell? ⟨w1.heap.size, 0, none⟩ = some (.slice (some ⟨w.heap.size, 0, none⟩) 2 2)) := fun W' hb => HLOOK7.out W' (bel2 B3e.out hb)
  have BD : Hid (Below we.heap.size we we.drew) := drewN_below we 1
  have KR : Hid (we.drew.cell? ⟨w1.heap.size, 0, none⟩ = some (.slice (some ⟨w.heap.size, 0, none⟩) 2 2)) := KLA.out _ BD.out
  have HMC : Hid (∀ v, Below we.heap.size we v → Calls Tryz.prog 33 #[.int .i64 65] v fun r w' => ∃ o c, r = .returned (.slice o 65 c) ∧ Texts.IsTx w' o (awM 65) ∧ Below v.heap.size v w') := fun v _ => manyC 65 (by decide) v
  have HCM : Hid (∀ v o c, Below we.heap.size we v → Texts.IsTx v o (awM 65) → Calls Tryz.prog 26 #[.agg #[.slice (some ⟨w.heap.size, 0, none⟩) 2 2], .int .i64 0, .slice o 65 c] v fun r w' => ∃ o' c', r = .returned (.tuple #[.agg #[.int .i64 0, .int .i64 0, .int .i64 0, .string ⟨#[]⟩, .string ⟨#[]⟩, .string ⟨#[]⟩, .slice o' 0 c'], .int .i64 1001]) ∧ Below v.heap.size v w') := fun v o c hv hx => HNIL7.out v 0 (awM 65) o c 1001 (bel2 B3e.out hv) (sizes_of _ (fun s hs => by rw [List.eq_of_mem_replicate hs]; decide)) hx awM_e (by decide)
  go_cut [9] from 32 to 37 (fun okv wx => okv = .int .i64 1001 ∧ Below we.heap.size we wx)
  case first =>
    refine wp_region_noPanic ?_
    refine wp_region_held_drew (S := fun W : World => W.cell? ⟨w1.heap.size, 0, none⟩ = some (.slice (some ⟨w.heap.size, 0, none⟩) 2 2)) (by kernel_rfl) KR.out (fun h0 => ?_)
    generalize we.drew = wd0 at *
    refine take_at (i := 0) (d := some 33) (v := ?v0a) rfl rfl (by kernel_rfl) (by kernel_rfl) (by kernel_rfl) (fun _ _ _ h => h) (Or.inl ⟨by rfl, ?y0a⟩) h0 ?r0a
    case y0a => (intro w' hSw; (try dsimp only at hSw); go_simp; try with_reducible rfl)
    try simp only [Act.put, List.setIfInBounds_toArray, List.set_cons_zero, List.set_cons_succ]
    refine wpAnyH_ready (rs := [1, 6]) (by kernel_rfl) (by simp) ?_
    refine AllReadyH.cons rfl (fun K hK => ?_) (AllReadyH.cons rfl (fun K hK => ?_) AllReadyH.nil)
    · go_simp
      go_at_call 33
      refine (HMC.out _ BD.out).mono ?_
      rintro e wm ⟨oK, cK, rfl, htx, bb⟩
      have HTXwm : Hid (Texts.IsTx wm oK (awM 65)) := htx
      have Bwm : Hid (Below we.heap.size we wm) := bel2 BD.out bb
      have Kwm : Hid (wm.cell? ⟨w1.heap.size, 0, none⟩ = some (.slice (some ⟨w.heap.size, 0, none⟩) 2 2)) := KLA.out _ Bwm.out
      clear bb htx
      refine hK.out _ _ Kwm.out (fun h1 => ?_)
      clear hK K
      try simp only [Act.put, List.setIfInBounds_toArray, List.set_cons_zero, List.set_cons_succ]
      refine wpAnyH_ready (rs := [2, 6]) (by kernel_rfl) (by simp) ?_
      refine AllReadyH.cons rfl (fun K hK => ?_) (AllReadyH.cons rfl (fun K hK => ?_) AllReadyH.nil)
      · go_simp
        go_at_call 26
        refine (HCM.out _ oK cK Bwm.out HTXwm.out).mono ?_
        rintro e w8x ⟨o8, c8, rfl, b8⟩
        have B8 : Hid (Below we.heap.size we w8x) := bel2 Bwm.out b8
        have K8 : Hid (w8x.cell? ⟨w1.heap.size, 0, none⟩ = some (.slice (some ⟨w.heap.size, 0, none⟩) 2 2)) := KLA.out _ B8.out
        clear b8
        refine hK.out _ _ K8.out (fun h2 => ?_)
        clear hK K
        try simp only [Act.put, List.setIfInBounds_toArray, List.set_cons_zero, List.set_cons_succ]
        refine take_at (i := 3) (d := some 32) (v := ?v3b) rfl rfl (by kernel_rfl) (by kernel_rfl) (by kernel_rfl) (fun _ _ _ h => h) (Or.inl ⟨by rfl, ?y3b⟩) h2 ?r3b
        case y3b => (intro w' hSw; (try dsimp only at hSw); go_simp; try with_reducible rfl)
        try simp only [Act.put, List.setIfInBounds_toArray, List.set_cons_zero, List.set_cons_succ]
        refine take_at (i := 4) (d := some 36) (v := ?v4b) rfl rfl (by kernel_rfl) (by kernel_rfl) (by kernel_rfl) (fun _ _ _ h => h) (Or.inl ⟨by rfl, ?y4b⟩) h2 ?r4b
        case y4b => (intro w' hSw; (try dsimp only at hSw); go_simp; try with_reducible rfl)
        try simp only [Act.put, List.setIfInBounds_toArray, List.set_cons_zero, List.set_cons_succ]
        refine take_at (i := 5) (d := some 37) (v := ?v5b) rfl rfl (by kernel_rfl) (by kernel_rfl) (by kernel_rfl) (fun _ _ _ h => h) (Or.inl ⟨by rfl, ?y5b⟩) h2 ?r5b
        case y5b => (intro w' hSw; (try dsimp only at hSw); go_simp; try with_reducible rfl)
        try simp only [Act.put, List.setIfInBounds_toArray, List.set_cons_zero, List.set_cons_succ]
        refine wpAnyH_ready (rs := [6]) (by kernel_rfl) (by simp) ?_
        refine AllReadyH.cons rfl (fun K hK => ?_) AllReadyH.nil
        go_simp
        obtain ⟨wal, ea, xa, ba, za⟩ := box7 w8x nil none 0
        have eab : w8x.alloc (.cells #[.int .i64 0, .int .i64 0, .int .i64 0, .string ⟨#[]⟩, .string ⟨#[]⟩, .string ⟨#[]⟩, .slice none 0 0] 27) = wal := ea
        rw [eab]
        have XA0 : Hid (Bx wal w8x.heap.size nil none 0) := xa
        have Bwal : Hid (Below we.heap.size we wal) := bel2 B8.out ba
        have Kwal : Hid (wal.cell? ⟨w1.heap.size, 0, none⟩ = some (.slice (some ⟨w.heap.size, 0, none⟩) 2 2)) := KLA.out _ Bwal.out
        have HNB : Hid (we.heap.size ≤ w8x.heap.size) := B8.out.size
        clear ea eab xa ba
        refine hK.out _ _ Kwal.out (fun h3 => ?_)
        clear hK K
        try simp only [Act.put, List.setIfInBounds_toArray, List.set_cons_zero, List.set_cons_succ]
        have s0 := XA0.out.fz 0
        have s1 := XA0.out.fz 1
        have s2 := XA0.out.fz 2
        have s3 := XA0.out.fz 3
        have s4 := XA0.out.fz 4
        have s5 := XA0.out.fz 5
        have s6 := XA0.out.fz 6
        have t0 := XA0.out.c0
        have t1 := XA0.out.c1
        have t2 := XA0.out.c2
        have t3 := XA0.out.c3
        have t4 := XA0.out.c4
        have t5 := XA0.out.c5
        have t6 := XA0.out.c6
        unfold nil at t0 t1 t2 t3 t4 t5 t6
        refine wpAnyH_ready (rs := [7]) (by kernel_rfl) (by simp) ?_
        refine AllReadyH.cons rfl (fun K hK => ?_) AllReadyH.nil
        go_simp
        obtain ⟨w10, e10, x10, h10, b10⟩ := set7 XA0.out nil o8 c8
        have e10b : ((((((wal.setCell ⟨w8x.heap.size, 0, none⟩ (.int .i64 0)).setCell ⟨w8x.heap.size, 1, none⟩ (.int .i64 0)).setCell ⟨w8x.heap.size, 2, none⟩ (.int .i64 0)).setCell ⟨w8x.heap.size, 3, none⟩ (.string ⟨#[]⟩)).setCell ⟨w8x.heap.size, 4, none⟩ (.string ⟨#[]⟩)).setCell ⟨w8x.heap.size, 5, none⟩ (.string ⟨#[]⟩)).setCell ⟨w8x.heap.size, 6, none⟩ (.slice o8 0 c8) = w10 := e10
        rw [e10b]
        have hNB : we.heap.size ≤ w8x.heap.size := HNB.out
        have B10 : Hid (Below we.heap.size we w10) := Bwal.out.trans (b10 we.heap.size hNB)
        have K10 : Hid (w10.cell? ⟨w1.heap.size, 0, none⟩ = some (.slice (some ⟨w.heap.size, 0, none⟩) 2 2)) := KLA.out _ B10.out
        clear e10 e10b x10 h10 b10
        clear s0 s1 s2 s3 s4 s5 s6 t0 t1 t2 t3 t4 t5 t6
        refine hK.out _ _ K10.out (fun h4 => ?_)
        clear hK K
        try simp only [Act.put, List.setIfInBounds_toArray, List.set_cons_zero, List.set_cons_succ]
        refine take_at (i := 8) (d := some 9) (v := ?v8b) rfl rfl (by kernel_rfl) (by kernel_rfl) (by kernel_rfl) (fun _ _ _ h => h) (Or.inl ⟨by rfl, ?y8b⟩) h4 ?r8b
        case y8b => (intro w' hSw; (try dsimp only at hSw); go_simp; try with_reducible rfl)
        try simp only [Act.put, List.setIfInBounds_toArray, List.set_cons_zero, List.set_cons_succ]
        refine wpAnyH_done (by kernel_rfl) ?_ _
        refine NoPanic.normal ?_
        go_wp2_with fail
        go_meet
        case rel => exact ⟨rfl, B10.out⟩
      · go_simp
        obtain ⟨wal, ea, xa, ba, za⟩ := box7 wm nil none 0
        have eab : wm.alloc (.cells #[.int .i64 0, .int .i64 0, .int .i64 0, .string ⟨#[]⟩, .string ⟨#[]⟩, .string ⟨#[]⟩, .slice none 0 0] 27) = wal := ea
        rw [eab]
        have XA0 : Hid (Bx wal wm.heap.size nil none 0) := xa
        have Bwal : Hid (Below we.heap.size we wal) := bel2 Bwm.out ba
        have Kwal : Hid (wal.cell? ⟨w1.heap.size, 0, none⟩ = some (.slice (some ⟨w.heap.size, 0, none⟩) 2 2)) := KLA.out _ Bwal.out
        have HNB : Hid (we.heap.size ≤ wm.heap.size) := Bwm.out.size
        have HTXa : Hid (Texts.IsTx wal oK (awM 65)) := HTXwm.out.later ba
        clear ea eab xa ba
        refine hK.out _ _ Kwal.out (fun h2 => ?_)
        clear hK K
        try simp only [Act.put, List.setIfInBounds_toArray, List.set_cons_zero, List.set_cons_succ]
        refine wpAnyH_ready (rs := [2]) (by kernel_rfl) (by simp) ?_
        refine AllReadyH.cons rfl (fun K hK => ?_) AllReadyH.nil
        go_simp
        go_at_call 26
        refine (HCM.out _ oK cK Bwal.out HTXa.out).mono ?_
        rintro e w8x ⟨o8, c8, rfl, b8⟩
        have B8 : Hid (Below we.heap.size we w8x) := bel2 Bwal.out b8
        have K8 : Hid (w8x.cell? ⟨w1.heap.size, 0, none⟩ = some (.slice (some ⟨w.heap.size, 0, none⟩) 2 2)) := KLA.out _ B8.out
        have XA1 : Hid (Bx w8x wm.heap.size nil none 0) := XA0.out.later b8
        clear b8
        refine hK.out _ _ K8.out (fun h3 => ?_)
        clear hK K
        try simp only [Act.put, List.setIfInBounds_toArray, List.set_cons_zero, List.set_cons_succ]
        refine take_at (i := 3) (d := some 32) (v := ?v3c) rfl rfl (by kernel_rfl) (by kernel_rfl) (by kernel_rfl) (fun _ _ _ h => h) (Or.inl ⟨by rfl, ?y3c⟩) h3 ?r3c
        case y3c => (intro w' hSw; (try dsimp only at hSw); go_simp; try with_reducible rfl)
        try simp only [Act.put, List.setIfInBounds_toArray, List.set_cons_zero, List.set_cons_succ]
        refine take_at (i := 4) (d := some 36) (v := ?v4c) rfl rfl (by kernel_rfl) (by kernel_rfl) (by kernel_rfl) (fun _ _ _ h => h) (Or.inl ⟨by rfl, ?y4c⟩) h3 ?r4c
        case y4c => (intro w' hSw; (try dsimp only at hSw); go_simp; try with_reducible rfl)
        try simp only [Act.put, List.setIfInBounds_toArray, List.set_cons_zero, List.set_cons_succ]
        refine take_at (i := 5) (d := some 37) (v := ?v5c) rfl rfl (by kernel_rfl) (by kernel_rfl) (by kernel_rfl) (fun _ _ _ h => h) (Or.inl ⟨by rfl, ?y5c⟩) h3 ?r5c
        case y5c => (intro w' hSw; (try dsimp only at hSw); go_simp; try with_reducible rfl)
        try simp only [Act.put, List.setIfInBounds_toArray, List.set_cons_zero, List.set_cons_succ]
        have s0 := XA1.out.fz 0
        have s1 := XA1.out.fz 1
        have s2 := XA1.out.fz 2
        have s3 := XA1.out.fz 3
        have s4 := XA1.out.fz 4
        have s5 := XA1.out.fz 5
        have s6 := XA1.out.fz 6
        have t0 := XA1.out.c0
        have t1 := XA1.out.c1
        have t2 := XA1.out.c2
        have t3 := XA1.out.c3
        have t4 := XA1.out.c4
        have t5 := XA1.out.c5
        have t6 := XA1.out.c6
        unfold nil at t0 t1 t2 t3 t4 t5 t6
        refine wpAnyH_ready (rs := [7]) (by kernel_rfl) (by simp) ?_
        refine AllReadyH.cons rfl (fun K hK => ?_) AllReadyH.nil
        go_simp
        obtain ⟨w10, e10, x10, h10, b10⟩ := set7 XA1.out nil o8 c8
        have e10b : ((((((w8x.setCell ⟨wm.heap.size, 0, none⟩ (.int .i64 0)).setCell ⟨wm.heap.size, 1, none⟩ (.int .i64 0)).setCell ⟨wm.heap.size, 2, none⟩ (.int .i64 0)).setCell ⟨wm.heap.size, 3, none⟩ (.string ⟨#[]⟩)).setCell ⟨wm.heap.size, 4, none⟩ (.string ⟨#[]⟩)).setCell ⟨wm.heap.size, 5, none⟩ (.string ⟨#[]⟩)).setCell ⟨wm.heap.size, 6, none⟩ (.slice o8 0 c8) = w10 := e10
        rw [e10b]
        have hNB : we.heap.size ≤ wm.heap.size := HNB.out
        have B10 : Hid (Below we.heap.size we w10) := B8.out.trans (b10 we.heap.size hNB)
        have K10 : Hid (w10.cell? ⟨w1.heap.size, 0, none⟩ = some (.slice (some ⟨w.heap.size, 0, none⟩) 2 2)) := KLA.out _ B10.out
        clear e10 e10b x10 h10 b10
        clear s0 s1 s2 s3 s4 s5 s6 t0 t1 t2 t3 t4 t5 t6
        refine hK.out _ _ K10.out (fun h4 => ?_)
        clear hK K
        try simp only [Act.put, List.setIfInBounds_toArray, List.set_cons_zero, List.set_cons_succ]
        refine take_at (i := 8) (d := some 9) (v := ?v8c) rfl rfl (by kernel_rfl) (by kernel_rfl) (by kernel_rfl) (fun _ _ _ h => h) (Or.inl ⟨by rfl, ?y8c⟩) h4 ?r8c
        case y8c => (intro w' hSw; (try dsimp only at hSw); go_simp; try with_reducible rfl)
        try simp only [Act.put, List.setIfInBounds_toArray, List.set_cons_zero, List.set_cons_succ]
        refine wpAnyH_done (by kernel_rfl) ?_ _
        refine NoPanic.normal ?_
        go_wp2_with fail
        go_meet
        case rel => exact ⟨rfl, B10.out⟩
    · go_simp
      obtain ⟨wal, ea, xa, ba, za⟩ := box7 wd0 nil none 0
      have eab : wd0.alloc (.cells #[.int .i64 0, .int .i64 0, .int .i64 0, .string ⟨#[]⟩, .string ⟨#[]⟩, .string ⟨#[]⟩, .slice none 0 0] 27) = wal := ea
      rw [eab]
      have XA0 : Hid (Bx wal wd0.heap.size nil none 0) := xa
      have Bwal : Hid (Below we.heap.size we wal) := bel2 BD.out ba
      have Kwal : Hid (wal.cell? ⟨w1.heap.size, 0, none⟩ = some (.slice (some ⟨w.heap.size, 0, none⟩) 2 2)) := KLA.out _ Bwal.out
      have HNB : Hid (we.heap.size ≤ wd0.heap.size) := BD.out.size
      clear ea eab xa ba
      refine hK.out _ _ Kwal.out (fun h1 => ?_)
      clear hK K
      try simp only [Act.put, List.setIfInBounds_toArray, List.set_cons_zero, List.set_cons_succ]
      refine wpAnyH_ready (rs := [1]) (by kernel_rfl) (by simp) ?_
      refine AllReadyH.cons rfl (fun K hK => ?_) AllReadyH.nil
      go_simp
      go_at_call 33
      refine (HMC.out _ Bwal.out).mono ?_
      rintro e wm ⟨oK, cK, rfl, htx, bb⟩
      have HTXwm : Hid (Texts.IsTx wm oK (awM 65)) := htx
      have Bwm : Hid (Below we.heap.size we wm) := bel2 Bwal.out bb
      have Kwm : Hid (wm.cell? ⟨w1.heap.size, 0, none⟩ = some (.slice (some ⟨w.heap.size, 0, none⟩) 2 2)) := KLA.out _ Bwm.out
      have XA1 : Hid (Bx wm wd0.heap.size nil none 0) := XA0.out.later bb
      clear bb htx
      refine hK.out _ _ Kwm.out (fun h2 => ?_)
      clear hK K
      try simp only [Act.put, List.setIfInBounds_toArray, List.set_cons_zero, List.set_cons_succ]
      refine wpAnyH_ready (rs := [2]) (by kernel_rfl) (by simp) ?_
      refine AllReadyH.cons rfl (fun K hK => ?_) AllReadyH.nil
      go_simp
      go_at_call 26
      refine (HCM.out _ oK cK Bwm.out HTXwm.out).mono ?_
      rintro e w8x ⟨o8, c8, rfl, b8⟩
      have B8 : Hid (Below we.heap.size we w8x) := bel2 Bwm.out b8
      have K8 : Hid (w8x.cell? ⟨w1.heap.size, 0, none⟩ = some (.slice (some ⟨w.heap.size, 0, none⟩) 2 2)) := KLA.out _ B8.out
      have XA2 : Hid (Bx w8x wd0.heap.size nil none 0) := XA1.out.later b8
      clear b8
      refine hK.out _ _ K8.out (fun h3 => ?_)
      clear hK K
      try simp only [Act.put, List.setIfInBounds_toArray, List.set_cons_zero, List.set_cons_succ]
      refine take_at (i := 3) (d := some 32) (v := ?v3d) rfl rfl (by kernel_rfl) (by kernel_rfl) (by kernel_rfl) (fun _ _ _ h => h) (Or.inl ⟨by rfl, ?y3d⟩) h3 ?r3d
      case y3d => (intro w' hSw; (try dsimp only at hSw); go_simp; try with_reducible rfl)
      try simp only [Act.put, List.setIfInBounds_toArray, List.set_cons_zero, List.set_cons_succ]
      refine take_at (i := 4) (d := some 36) (v := ?v4d) rfl rfl (by kernel_rfl) (by kernel_rfl) (by kernel_rfl) (fun _ _ _ h => h) (Or.inl ⟨by rfl, ?y4d⟩) h3 ?r4d
      case y4d => (intro w' hSw; (try dsimp only at hSw); go_simp; try with_reducible rfl)
      try simp only [Act.put, List.setIfInBounds_toArray, List.set_cons_zero, List.set_cons_succ]
      refine take_at (i := 5) (d := some 37) (v := ?v5d) rfl rfl (by kernel_rfl) (by kernel_rfl) (by kernel_rfl) (fun _ _ _ h => h) (Or.inl ⟨by rfl, ?y5d⟩) h3 ?r5d
      case y5d => (intro w' hSw; (try dsimp only at hSw); go_simp; try with_reducible rfl)
      try simp only [Act.put, List.setIfInBounds_toArray, List.set_cons_zero, List.set_cons_succ]
      have s0 := XA2.out.fz 0
      have s1 := XA2.out.fz 1
      have s2 := XA2.out.fz 2
      have s3 := XA2.out.fz 3
      have s4 := XA2.out.fz 4
      have s5 := XA2.out.fz 5
      have s6 := XA2.out.fz 6
      have t0 := XA2.out.c0
      have t1 := XA2.out.c1
      have t2 := XA2.out.c2
      have t3 := XA2.out.c3
      have t4 := XA2.out.c4
      have t5 := XA2.out.c5
      have t6 := XA2.out.c6
      unfold nil at t0 t1 t2 t3 t4 t5 t6
      refine wpAnyH_ready (rs := [7]) (by kernel_rfl) (by simp) ?_
      refine AllReadyH.cons rfl (fun K hK => ?_) AllReadyH.nil
      go_simp
      obtain ⟨w10, e10, x10, h10, b10⟩ := set7 XA2.out nil o8 c8
      have e10b : ((((((w8x.setCell ⟨wd0.heap.size, 0, none⟩ (.int .i64 0)).setCell ⟨wd0.heap.size, 1, none⟩ (.int .i64 0)).setCell ⟨wd0.heap.size, 2, none⟩ (.int .i64 0)).setCell ⟨wd0.heap.size, 3, none⟩ (.string ⟨#[]⟩)).setCell ⟨wd0.heap.size, 4, none⟩ (.string ⟨#[]⟩)).setCell ⟨wd0.heap.size, 5, none⟩ (.string ⟨#[]⟩)).setCell ⟨wd0.heap.size, 6, none⟩ (.slice o8 0 c8) = w10 := e10
      rw [e10b]
      have hNB : we.heap.size ≤ wd0.heap.size := HNB.out
      have B10 : Hid (Below we.heap.size we w10) := B8.out.trans (b10 we.heap.size hNB)
      have K10 : Hid (w10.cell? ⟨w1.heap.size, 0, none⟩ = some (.slice (some ⟨w.heap.size, 0, none⟩) 2 2)) := KLA.out _ B10.out
      clear e10 e10b x10 h10 b10
      clear s0 s1 s2 s3 s4 s5 s6 t0 t1 t2 t3 t4 t5 t6
      refine hK.out _ _ K10.out (fun h4 => ?_)
      clear hK K
      try simp only [Act.put, List.setIfInBounds_toArray, List.set_cons_zero, List.set_cons_succ]
      refine take_at (i := 8) (d := some 9) (v := ?v8d) rfl rfl (by kernel_rfl) (by kernel_rfl) (by kernel_rfl) (fun _ _ _ h => h) (Or.inl ⟨by rfl, ?y8d⟩) h4 ?r8d
      case y8d => (intro w' hSw; (try dsimp only at hSw); go_simp; try with_reducible rfl)
      try simp only [Act.put, List.setIfInBounds_toArray, List.set_cons_zero, List.set_cons_succ]
      refine wpAnyH_done (by kernel_rfl) ?_ _
      refine NoPanic.normal ?_
      go_wp2_with fail
      go_meet
      case rel => exact ⟨rfl, B10.out⟩
  case rest =>
    obtain ⟨rfl, hbx⟩ := hcut
    have B3x : Hid (Below w7.heap.size w7 wc) := bel2 B3e.out hbx
    clear hbx KLA BD KR HMC HCM
    obtain ⟨wk, ek, hK, bk⟩ : ∃ wk, wc.alloc (.cells #[.int .i64 0, .int .i64 0, .int .i64 3, .string ⟨#[]⟩, .string ⟨#[0, 0, 0, 0, 2, 0, 0, 0, 2, 0, 0, 0, 3, 0, 0, 0]⟩, .string ⟨#[97, 98, 99]⟩, .slice none 0 0] 27) = wk ∧ wk.heap[wc.heap.size]? = some (.cells #[.int .i64 0, .int .i64 0, .int .i64 3, .string ⟨#[]⟩, .string ⟨#[0, 0, 0, 0, 2, 0, 0, 0, 2, 0, 0, 0, 3, 0, 0, 0]⟩, .string ⟨#[97, 98, 99]⟩, .slice none 0 0] 27) ∧ Below wc.heap.size wc wk := ⟨_, rfl, heap_alloc_new _ _, (Below.refl _ _).alloc (Nat.le_refl _) _⟩
    obtain ⟨wl, el', xl, bl', zl⟩ := box7 wk nil none 0
    have el : wk.alloc (.cells #[.int .i64 0, .int .i64 0, .int .i64 0, .string ⟨#[]⟩, .string ⟨#[]⟩, .string ⟨#[]⟩, .slice none 0 0] 27) = wl := el'
    have m0 := xl.c0
    have m1 := xl.c1
    have m2 := xl.c2
    have m3 := xl.c3
    have m4 := xl.c4
    have m5 := xl.c5
    have m6 := xl.c6
    have f0 := xl.fz 0
    have f1 := xl.fz 1
    have f2 := xl.fz 2
    have f3 := xl.fz 3
    have f4 := xl.fz 4
    have f5 := xl.fz 5
    have f6 := xl.fz 6
    unfold nil at m0 m1 m2 m3 m4 m5 m6
    obtain ⟨ww, ew', xw, hw', kw⟩ := set7 xl awA (some ⟨wc.heap.size, 0, none⟩) 1
    have XW : Hid (Bx ww wk.heap.size awA (some ⟨wc.heap.size, 0, none⟩) 1) := xw
    have ew : (((((((wl).setCell ⟨wk.heap.size, 0, none⟩ (.int .i64 0)).setCell ⟨wk.heap.size, 1, none⟩ (.int .i64 0)).setCell ⟨wk.heap.size, 2, none⟩ (.int .i64 3)).setCell ⟨wk.heap.size, 3, none⟩ (.string ⟨#[5]⟩)).setCell ⟨wk.heap.size, 4, none⟩ (.string ⟨#[]⟩)).setCell ⟨wk.heap.size, 5, none⟩ (.string ⟨#[]⟩)).setCell ⟨wk.heap.size, 6, none⟩ (.slice (some ⟨wc.heap.size, 0, none⟩) 1 1) = ww := ew'
    have bkw : Below wk.heap.size wk ww := bl'.trans (kw _ (Nat.le_refl _))
    have B7w : Hid (Below w7.heap.size w7 ww) := bel2 B3x.out (bel2 bk bkw)
    have HWW : Hid (HoldsF (upB 4096) 96 ww 8 (awA.cells (some ⟨wc.heap.size, 0, none⟩) 1) awA) := (awA_holds (by unfold upB; omega) hK).later bkw
    have HAW : Hid (HoldsF (upB 4096) 96 ww 8 (awA.cells oA cA) awA) := HA7.out.later B7w.out
    have XAW : Hid (Bx ww w5.heap.size awA oA cA) := XA7.out.later B7w.out
    have BW : Hid (Below w.heap.size w ww) := bel2 B7.out B7w.out
    have ekh : Hid (wc.alloc (.cells #[.int .i64 0, .int .i64 0, .int .i64 3, .string ⟨#[]⟩, .string ⟨#[0, 0, 0, 0, 2, 0, 0, 0, 2, 0, 0, 0, 3, 0, 0, 0]⟩, .string ⟨#[97, 98, 99]⟩, .slice none 0 0] 27) = wk) := ek
    go_upto_region 7 with fail
    try rw [ew]
    clear ek el el' xl bl' zl m0 m1 m2 m3 m4 m5 m6 f0 f1 f2 f3 f4 f5 f6 ew ew' xw hw' kw bk bkw hK ekh HNIL7 HLOOK7
    have HSA : Hid (Calls Tryz.prog 28 #[awA.val oA cA, awA.val (some ⟨wc.heap.size, 0, none⟩) 1] ww fun r w' => r = .returned (.bool true) ∧ Below ww.heap.size ww w') := sameA (upB 4096) 96 8 awA oA cA (some ⟨wc.heap.size, 0, none⟩) 1 ww HAW.out HWW.out
    unfold Arr.val at HSA
    generalize awA = RA at *
    have d0 := XAW.out.c0
    have d1 := XAW.out.c1
    have d2 := XAW.out.c2
    have d3 := XAW.out.c3
    have d4 := XAW.out.c4
    have d5 := XAW.out.c5
    have d6 := XAW.out.c6
    have g0 := XW.out.c0
    have g1 := XW.out.c1
    have g2 := XW.out.c2
    have g3 := XW.out.c3
    have g4 := XW.out.c4
    have g5 := XW.out.c5
    have g6 := XW.out.c6
    go_wp2_with fail
    refine HSA.out.mono ?_
    rintro e wy ⟨rfl, by'⟩
    have BY : Hid (Below w.heap.size w wy) := bel2 BW.out by'
    clear by' d0 d1 d2 d3 d4 d5 d6 g0 g1 g2 g3 g4 g5 g6
    go_wp2_with fail
    refine (Tree.num _ _).mono ?_
    rintro e wx ⟨rfl, hv⟩
    subst wx
    go_wp2_with fail
    refine (Tree.num _ _).mono ?_
    rintro e wx ⟨rfl, hv⟩
    subst wx
    go_wp2_with fail
    refine (Tree.num _ _).mono ?_
    rintro e wx ⟨rfl, hv⟩
    subst wx
    go_wp2_with fail
    refine (Tree.num _ _).mono ?_
    rintro e wx ⟨rfl, hv⟩
    subst wx
    go_wp2
    go_ret
    exact ⟨rfl, BY.out⟩
end Go.Proofs.YtcpfhfdgfcilaaaGreatDoor.Arr
