/-
  Several texts in one: What a reader tells of a row: the closures, plain, value: contracts. · What a reader tells of a row: value: contract.
-/
import Derived.Test.YtcpfhfdgfcilaaaGreatDoorR17
import Derived.Test.YtcpfhfdgfcilaaaGreatDoorR21
import Derived.Test.YtcpfhfdgfcilaaaGreatDoorR15
import Derived.Test.YtcpfhfdgfcilaaaGreatDoorR13
import Derived.Test.YtcpfhfdgfcilaaaGreatDoorR12
import Derived.Test.YtcpfhfdgfcilaaaGreatDoorR05
import Derived.Test.YtcpfhfdgfcilaaaGreatDoorR04
import Derived.Deep.CutRange
import Derived.Deep.CutBlock
set_option linter.unusedVariables false
set_option linter.unusedSimpArgs false
namespace Go.Proofs.YtcpfhfdgfcilaaaGreatDoor.Arr
open Go.ChangeShapes Go.WideShapes Go.ChangeAt Go.RowKit
open Tree Val

/-- A kid of a reader. -/
theorem HoldsRd.kid {w : World} {ns : List Nd} {f n : Nat} {a : Arr} {o : Option Addr} {cap : Nat} {k : Int} {r : Option Addr} {c : Nat} (h : HoldsRd w ns (f + 1) n (rdCells a o cap k r a.kids.length c) a) {i : Nat} (hi : i < a.kids.length) :
    ∃ g o' cap' r' c', r = some ⟨g, 0, none⟩ ∧ (∀ j v, j < 9 → (rdCells (kidAt a i) o' cap' (nd ns (kidNode ns n a i)).kind r' (kidAt a i).kids.length c')[j]? = some v → w.cell? ⟨g, i * 9 + j, none⟩ = some v) ∧ HoldsRd w ns f (kidNode ns n a i) (rdCells (kidAt a i) o' cap' (nd ns (kidNode ns n a i)).kind r' (kidAt a i).kids.length c') (kidAt a i) := by
  obtain ⟨o2, cap2, r2, c2, e, h2⟩ := h
  have er : r = r2 := by
    unfold rdCells at e
    simp only [List.cons.injEq, Value.slice.injEq, and_true, true_and] at e
    exact e.2.2.1
  subst er
  rcases h2 with e0 | ⟨g, rfl, hx⟩
  · rw [e0] at hi; exact absurd hi (Nat.not_lt_zero _)
  · obtain ⟨cs', hl, hc, hh⟩ := hx i hi
    cases f with
    | zero => cases hh
    | succ f =>
      obtain ⟨o3, cap3, r3, c3, e3, _⟩ := id hh
      rw [e3] at hh hc
      exact ⟨g, o3, cap3, r3, c3, rfl, fun j v hj hv => (hc j hj).trans hv, hh⟩
/-- A reader's kid's nine cells, in all worlds behind this one. -/
structure Rk (w : World) (g off : Nat) (a : Arr) (o : Option Addr) (cap : Nat) (k : Int) (r : Option Addr) (n c : Nat) : Prop where
  k0 : ∀ s : BW w, s.w.cell? ⟨g, off, none⟩ = some (.int .i64 a.layout)
  k1 : ∀ s : BW w, s.w.cell? ⟨g, off + 1, none⟩ = some (.int .i64 a.offset)
  k2 : ∀ s : BW w, s.w.cell? ⟨g, off + 2, none⟩ = some (.int .i64 a.length)
  k3 : ∀ s : BW w, s.w.cell? ⟨g, off + 3, none⟩ = some (.string a.valid)
  k4 : ∀ s : BW w, s.w.cell? ⟨g, off + 4, none⟩ = some (.string a.ends)
  k5 : ∀ s : BW w, s.w.cell? ⟨g, off + 5, none⟩ = some (.string a.data)
  k6 : ∀ s : BW w, s.w.cell? ⟨g, off + 6, none⟩ = some (.slice o a.kids.length cap)
  k7 : ∀ s : BW w, s.w.cell? ⟨g, off + 7, none⟩ = some (.int .i64 k)
  k8 : ∀ s : BW w, s.w.cell? ⟨g, off + 8, none⟩ = some (.slice r n c)
theorem rk_of {w : World} {g off : Nat} {a : Arr} {o : Option Addr} {cap : Nat} {k : Int} {r : Option Addr} {n c : Nat} (h : ∀ j v, j < 9 → (rdCells a o cap k r n c)[j]? = some v → w.cell? ⟨g, off + j, none⟩ = some v) : Rk w g off a o cap k r n c :=
  ⟨fun s => cell_later s.ok (h 0 _ (by omega) rfl), fun s => cell_later s.ok (h 1 _ (by omega) rfl), fun s => cell_later s.ok (h 2 _ (by omega) rfl), fun s => cell_later s.ok (h 3 _ (by omega) rfl), fun s => cell_later s.ok (h 4 _ (by omega) rfl), fun s => cell_later s.ok (h 5 _ (by omega) rfl), fun s => cell_later s.ok (h 6 _ (by omega) rfl), fun s => cell_later s.ok (h 7 _ (by omega) rfl), fun s => cell_later s.ok (h 8 _ (by omega) rfl)⟩
set_option maxRecDepth 20000 in
set_option maxHeartbeats 1600000 in
/-- The closure that tells a list's values. -/
theorem tellList (bR bF g N C E k : Nat) (kk : Arr) (ok : Option Addr) (ck : Nat) (q : Int) (rk : Option Addr) (nk cc : Nat) (V : ByteArray) (w : World) (hN : 0 < N) (hE : E ≤ 4096) (hk : k ≤ 4096)
    (hR : w.cell? ⟨bR, 8, none⟩ = some (.slice (some ⟨g, 0, none⟩) N C)) (hF : w.cell? ⟨bF, 0, none⟩ = some (.int .i64 (E : Int))) (hK : ∀ j v, j < 9 → (rdCells kk ok ck q rk nk cc)[j]? = some v → w.cell? ⟨g, j, none⟩ = some v)
    (HMM : Hid (∀ v, Below w.heap.size w v → Calls Tryz.prog 47 #[rdVal kk ok ck q rk nk cc, .int .i64 ((E : Int) + (k : Int))] v fun e w' => e = .returned (.string V) ∧ Below v.heap.size v w')) :
    Calls Tryz.prog 147 #[.int .i64 (k : Int), .pointer (some ⟨bR, 0, none⟩), .pointer (some ⟨bF, 0, none⟩)] w fun e w' => e = .returned (.string V) ∧ Below w.heap.size w w' := by
  have RK : Rk w g 0 kk ok ck q rk nk cc := rk_of (by intro j v hj hv; rw [Nat.zero_add]; exact hK j v hj hv)
  have k0 := RK.k0
  have k1 := RK.k1
  have k2 := RK.k2
  have k3 := RK.k3
  have k4 := RK.k4
  have k5 := RK.k5
  have k6 := RK.k6
  have k7 := RK.k7
  have k8 := RK.k8
  simp only [Nat.zero_add] at k1 k2 k3 k4 k5 k6 k7 k8
  have e6 : ∀ s : BW w, s.w.cell? ⟨bR, 8, none⟩ = some (.slice (some ⟨g, 0, none⟩) N C) := fun s => cell_later s.ok hR
  have e7 : ∀ s : BW w, s.w.cell? ⟨bF, 0, none⟩ = some (.int .i64 (E : Int)) := fun s => cell_later s.ok hF
  have hne := BW.some w
  have i0 : (0 : Int) < (N : Int) := by omega
  have hw1 : IntKind.i64.wrap ((E : Int) + (k : Int)) = (E : Int) + (k : Int) := by rw [IntKind.wrap_i64]; omega
  unfold rdVal at HMM
  clear RK hR hF hK
  go_enter Tryz.func147, Tryz.ntmps147
  go_wp2_with fail
  refine region_in (C := fun w' => ∃ s : BW w, w' = s.w) (by kernel_rfl) (by kernel_rfl) ⟨⟨w.drew, (Below.refl _ _).drew⟩, rfl⟩ ?_
  repeat (go_big_quiet_step (first
    | (go_at_call 47; rename_i s; refine (HMM.out s.w s.ok).mono ?_; rintro e wx ⟨rfl, hbx⟩; exact ⟨rfl, ⟨wx, bel2 s.ok hbx⟩, rfl⟩)))
  refine wpQuiet_nil ?_
  intro _ hw'
  obtain ⟨s, hw''⟩ := hw'
  subst hw''
  have HE : Hid (Below w.heap.size w s.w) := s.ok
  clear hne e6 e7 k0 k1 k2 k3 k4 k5 k6 k7 k8
  go_wp2
  go_ret
  exact ⟨rfl, HE.out⟩
set_option maxRecDepth 20000 in
set_option maxHeartbeats 1600000 in
/-- The closure that tells a struct's values. -/
theorem tellStruct (bR bF g N C P k : Nat) (kk : Arr) (ok : Option Addr) (ck : Nat) (q : Int) (rk : Option Addr) (nk cc : Nat) (V : ByteArray) (w : World) (hN : k < N)
    (hR : w.cell? ⟨bR, 8, none⟩ = some (.slice (some ⟨g, 0, none⟩) N C)) (hF : w.cell? ⟨bF, 0, none⟩ = some (.int .i64 (P : Int))) (hK : ∀ j v, j < 9 → (rdCells kk ok ck q rk nk cc)[j]? = some v → w.cell? ⟨g, k * 9 + j, none⟩ = some v)
    (HMM : Hid (∀ v, Below w.heap.size w v → Calls Tryz.prog 47 #[rdVal kk ok ck q rk nk cc, .int .i64 (P : Int)] v fun e w' => e = .returned (.string V) ∧ Below v.heap.size v w')) :
    Calls Tryz.prog 149 #[.int .i64 (k : Int), .pointer (some ⟨bR, 0, none⟩), .pointer (some ⟨bF, 0, none⟩)] w fun e w' => e = .returned (.string V) ∧ Below w.heap.size w w' := by
  have RK : Rk w g (k * 9) kk ok ck q rk nk cc := rk_of hK
  have k0 := RK.k0
  have k1 := RK.k1
  have k2 := RK.k2
  have k3 := RK.k3
  have k4 := RK.k4
  have k5 := RK.k5
  have k6 := RK.k6
  have k7 := RK.k7
  have k8 := RK.k8
  have e6 : ∀ s : BW w, s.w.cell? ⟨bR, 8, none⟩ = some (.slice (some ⟨g, 0, none⟩) N C) := fun s => cell_later s.ok hR
  have e7 : ∀ s : BW w, s.w.cell? ⟨bF, 0, none⟩ = some (.int .i64 (P : Int)) := fun s => cell_later s.ok hF
  have hne := BW.some w
  have i0 : (0 : Int) ≤ (k : Int) := Int.natCast_nonneg _
  have i1 : (k : Int) < (N : Int) := by omega
  unfold rdVal at HMM
  clear RK hR hF hK
  go_enter Tryz.func149, Tryz.ntmps149
  go_wp2_with fail
  refine region_in (C := fun w' => ∃ s : BW w, w' = s.w) (by kernel_rfl) (by kernel_rfl) ⟨⟨w.drew, (Below.refl _ _).drew⟩, rfl⟩ ?_
  repeat (go_big_quiet_step (first
    | (go_at_call 47; rename_i s; refine (HMM.out s.w s.ok).mono ?_; rintro e wx ⟨rfl, hbx⟩; exact ⟨rfl, ⟨wx, bel2 s.ok hbx⟩, rfl⟩)))
  refine wpQuiet_nil ?_
  intro _ hw'
  obtain ⟨s, hw''⟩ := hw'
  subst hw''
  have HE : Hid (Below w.heap.size w s.w) := s.ok
  clear hne e6 e7 k0 k1 k2 k3 k4 k5 k6 k7 k8
  go_wp2
  go_ret
  exact ⟨rfl, HE.out⟩
/-- A whole number of a buffer. -/
theorem longC (s : ByteArray) (i : Nat) (hs : s.size ≤ 4096) (h : 8 * i + 8 ≤ s.size) (w : World) :
    Calls Tryz.prog 141 #[.string s, .int .i64 (i : Int)] w fun r w' => r = .returned (.tuple #[.int .i64 (signed (Plain.val (bl s) (8 * i) 8)), .bool true]) ∧ w' = w := by
  have hw : IntKind.i64.wrap (8 * (i : Int)) = 8 * (i : Int) := by rw [IntKind.wrap_i64]; omega
  have HG : Hid (Calls Tryz.prog 213 #[.string s, .int .i64 (8 * (i : Int)), .int .i64 8] w fun r w' => r = .returned (.tuple #[.int .i64 (signed (Plain.val (bl s) (8 * i) 8)), .int .i64 0]) ∧ w' = w) := by
    have := Fix.get8 s (8 * i) w (by omega) h
    rw [show ((8 * i : Nat) : Int) = 8 * (i : Int) from by omega, signed_w64 _ (Plain.val_lt _ _ _)] at this
    exact this
  generalize signed (Plain.val (bl s) (8 * i) 8) = Z at *
  have HN : Hid (Calls Tryz.prog 179 #[.string s, .int .i64 (i : Int), .int .i64 8] w fun r w' => r = .returned (.tuple #[.int .i64 Z, .bool true]) ∧ w' = w) := by
    go_enter Tryz.func179, Tryz.ntmps179
    go_wp2_with fail
    refine HG.out.mono ?_
    rintro e w' ⟨rfl, rfl⟩
    go_wp2
    go_ret2
    exact ⟨rfl, rfl⟩
  go_enter Tryz.func141, Tryz.ntmps141
  go_wp2_with fail
  refine HN.out.mono ?_
  rintro e w' ⟨rfl, rfl⟩
  go_wp2
  go_ret2
  exact ⟨rfl, rfl⟩
theorem own_cap {w : World} {base e k n : Nat} {o : Option Addr} {c : Nat} {xs : List Value} (h : w.ownsRow base e k (.slice o n c) n xs) : n ≤ c := by
  rcases h.2 with ⟨e1, e2⟩ | ⟨g, cap, cur, e1, _, _, hle, _⟩
  · omega
  · injection e1 with _ _ q
    omega
/-- What a reader tells of a row, of an array no deeper than told. -/
def ReadC (f : Nat) : Prop := ∀ (ns : List Nd) (n : Nat) (a : Arr) (o : Option Addr) (cap : Nat) (r : Option Addr) (c row : Nat) (w : World), n < ns.length → may ns = true → mayF ns f n a = true → (row : Int) < a.length → Home w → HoldsRd w ns f n (rdCells a o cap (nd ns n).kind r a.kids.length c) a →
  Calls Tryz.prog 47 #[rdVal a o cap (nd ns n).kind r a.kids.length c, .int .i64 (row : Int)] w fun e w' => e = .returned (.string (mk (rowF ns f n a row))) ∧ Below w.heap.size w w'
set_option maxRecDepth 20000 in
set_option maxHeartbeats 3200000 in
theorem rdInt (f : Nat) (ns : List Nd) (n : Nat) (a : Arr) (o : Option Addr) (cap : Nat) (r : Option Addr) (c row : Nat) (w : World) (hn : n < ns.length) (hm : may ns = true) (hf : mayF ns (f + 1) n a = true) (hr : (row : Int) < a.length) (hw : Hid (Home w)) (hH : Hid (HoldsRd w ns (f + 1) n (rdCells a o cap (nd ns n).kind r a.kids.length c) a)) (hL : a.layout = 0) (hk : (nd ns n).kind = 0) :
    Calls Tryz.prog 81 #[rdVal a o cap (nd ns n).kind r a.kids.length c, .int .i64 ((row + a.offset.toNat : Nat) : Int)] w fun e w' => e = .returned (.string (mk (plainRow (rowF ns f) ns n a (row + a.offset.toNat)))) ∧ Below w.heap.size w w' := by
  obtain ⟨w1, e1, x1, b1, s1⟩ := box9 w a o cap 0 r a.kids.length c
  obtain ⟨w2, e2, s2, c2, b2⟩ := boxed w1 (.int .i64 ((row + a.offset.toNat : Nat) : Int)) 3
  have hC := mayF_cases hf
  have hpl : plainB (mayF ns f) ns n a = true := by
    rcases hC.2 with q | q
    · exact q.2
    · exact absurd hL q.1
  have hoff := hC.1.off
  have hrows := hC.1.rows
  have hP64 : row + a.offset.toNat ≤ 64 := by omega
  have B2 : Hid (Below w.heap.size w w2) := bel2 b1 b2
  have X2 : Hid (Rx w2 w.heap.size a o cap 0 r a.kids.length c) := x1.later b2
  have HC2 : Hid (w2.cell? ⟨w1.heap.size, 0, none⟩ = some (.int .i64 ((row + a.offset.toNat : Nat) : Int))) := c2
  have HOM : Hid (∀ v, Below w.heap.size w v → Home v) := fun v hv => hw.out.later hv
  have HKD : Hid ((nd ns n).kind = 0) := hk
  have h8 := at_int hC.1 hpl hk hr
  have hd := hC.1.data
  have HN : Hid (∀ v, Calls Tryz.prog 141 #[.string a.data, .int .i64 ((row + a.offset.toNat : Nat) : Int)] v fun r w' => r = .returned (.tuple #[.int .i64 (signed (Plain.val (bl a.data) (8 * (row + a.offset.toNat)) 8)), .bool true]) ∧ w' = v) := fun v => longC a.data _ hd h8 v
  have HI : Hid (∀ v, Below w.heap.size w v → Calls Tryz.prog 142 #[.int .i64 (signed (Plain.val (bl a.data) (8 * (row + a.offset.toNat)) 8))] v fun r w' => r = .returned (.string (mk (intM (signed (Plain.val (bl a.data) (8 * (row + a.offset.toNat)) 8))))) ∧ Below v.heap.size v w') := fun v hv => intC _ (signed_in _ (Plain.val_lt _ _ _)) v (HOM.out v hv)
  have HPR : Hid (plainRow (rowF ns f) ns n a (row + a.offset.toNat) = intM (signed (Plain.val (bl a.data) (8 * (row + a.offset.toNat)) 8))) := by unfold Hid plainRow; rw [if_pos hk]
  clear h8 hd
  clear s1 s2 c2 b1 b2 x1 hw hpl hC hf hr hL
  unfold rdVal
  rw [hk]
  clear hk
  generalize plainRow (rowF ns f) ns n a (row + a.offset.toNat) = V at *
  generalize hPP : row + a.offset.toNat = P at *
  clear hPP
  have d0 := X2.out.c0
  have d1 := X2.out.c1
  have d2 := X2.out.c2
  have d3 := X2.out.c3
  have d4 := X2.out.c4
  have d5 := X2.out.c5
  have d6 := X2.out.c6
  have d7 := X2.out.c7
  have d8 := X2.out.c8
  have c3 := HC2.out
  go_enter Tryz.func81, Tryz.ntmps81
  generalize signed (Plain.val (bl a.data) (8 * P) 8) = Z at *
  go_wp2_with fail
  refine (HN.out w2).mono ?_
  rintro e wx ⟨rfl, hv⟩
  subst wx
  go_wp2_with fail
  refine (HI.out w2 B2.out).mono ?_
  rintro e w3 ⟨rfl, b3⟩
  have B3 : Hid (Below w.heap.size w w3) := bel2 B2.out b3
  clear b3
  go_wp2
  go_ret
  exact ⟨ret_str (by rw [HPR.out]), B3.out⟩
set_option maxRecDepth 20000 in
set_option maxHeartbeats 3200000 in
theorem rdBool (f : Nat) (ns : List Nd) (n : Nat) (a : Arr) (o : Option Addr) (cap : Nat) (r : Option Addr) (c row : Nat) (w : World) (hn : n < ns.length) (hm : may ns = true) (hf : mayF ns (f + 1) n a = true) (hr : (row : Int) < a.length) (hw : Hid (Home w)) (hH : Hid (HoldsRd w ns (f + 1) n (rdCells a o cap (nd ns n).kind r a.kids.length c) a)) (hL : a.layout = 0) (hk : (nd ns n).kind = 1) :
    Calls Tryz.prog 81 #[rdVal a o cap (nd ns n).kind r a.kids.length c, .int .i64 ((row + a.offset.toNat : Nat) : Int)] w fun e w' => e = .returned (.string (mk (plainRow (rowF ns f) ns n a (row + a.offset.toNat)))) ∧ Below w.heap.size w w' := by
  obtain ⟨w1, e1, x1, b1, s1⟩ := box9 w a o cap 1 r a.kids.length c
  obtain ⟨w2, e2, s2, c2, b2⟩ := boxed w1 (.int .i64 ((row + a.offset.toNat : Nat) : Int)) 3
  have hC := mayF_cases hf
  have hpl : plainB (mayF ns f) ns n a = true := by
    rcases hC.2 with q | q
    · exact q.2
    · exact absurd hL q.1
  have hoff := hC.1.off
  have hrows := hC.1.rows
  have hP64 : row + a.offset.toNat ≤ 64 := by omega
  have B2 : Hid (Below w.heap.size w w2) := bel2 b1 b2
  have X2 : Hid (Rx w2 w.heap.size a o cap 1 r a.kids.length c) := x1.later b2
  have HC2 : Hid (w2.cell? ⟨w1.heap.size, 0, none⟩ = some (.int .i64 ((row + a.offset.toNat : Nat) : Int))) := c2
  have HOM : Hid (∀ v, Below w.heap.size w v → Home v) := fun v hv => hw.out.later hv
  have HKD : Hid ((nd ns n).kind = 1) := hk
  have h8 := at_bool hC.1 hpl hk hr
  have hd := hC.1.data
  have HN : Hid (∀ v, Calls Tryz.prog 137 #[.string a.data, .int .i64 ((row + a.offset.toNat : Nat) : Int)] v fun r w' => r = .returned (.tuple #[.bool (BitP.bit (bl a.data) (row + a.offset.toNat)), .int .i64 0]) ∧ w' = v) := fun v => by
    have := Bit.get_yes a.data ((row + a.offset.toNat : Nat) : Int) v (by omega) (by omega) (by omega)
    rw [Int.toNat_natCast] at this
    exact this
  have HPR : Hid (plainRow (rowF ns f) ns n a (row + a.offset.toNat) = boolM (BitP.bit (bl a.data) (row + a.offset.toNat))) := by unfold Hid plainRow; rw [if_neg (by omega), if_pos hk]
  clear h8 hd
  clear s1 s2 c2 b1 b2 x1 hw hpl hC hf hr hL
  unfold rdVal
  rw [hk]
  clear hk
  generalize plainRow (rowF ns f) ns n a (row + a.offset.toNat) = V at *
  generalize hPP : row + a.offset.toNat = P at *
  clear hPP
  have d0 := X2.out.c0
  have d1 := X2.out.c1
  have d2 := X2.out.c2
  have d3 := X2.out.c3
  have d4 := X2.out.c4
  have d5 := X2.out.c5
  have d6 := X2.out.c6
  have d7 := X2.out.c7
  have d8 := X2.out.c8
  have c3 := HC2.out
  go_enter Tryz.func81, Tryz.ntmps81
  generalize BitP.bit (bl a.data) P = Z at *
  go_wp2_with fail
  refine (HN.out w2).mono ?_
  rintro e wx ⟨rfl, hv⟩
  subst wx
  go_wp2_with fail
  refine (boolC Z w2).mono ?_
  rintro e wx ⟨rfl, hv⟩
  subst wx
  go_wp2
  go_ret
  exact ⟨ret_str (by rw [HPR.out]; rfl), B2.out⟩
set_option maxRecDepth 20000 in
set_option maxHeartbeats 3200000 in
theorem rdBytes (f : Nat) (ns : List Nd) (n : Nat) (a : Arr) (o : Option Addr) (cap : Nat) (r : Option Addr) (c row : Nat) (w : World) (hn : n < ns.length) (hm : may ns = true) (hf : mayF ns (f + 1) n a = true) (hr : (row : Int) < a.length) (hw : Hid (Home w)) (hH : Hid (HoldsRd w ns (f + 1) n (rdCells a o cap (nd ns n).kind r a.kids.length c) a)) (hL : a.layout = 0) (hk : (nd ns n).kind = 2) :
    Calls Tryz.prog 81 #[rdVal a o cap (nd ns n).kind r a.kids.length c, .int .i64 ((row + a.offset.toNat : Nat) : Int)] w fun e w' => e = .returned (.string (mk (plainRow (rowF ns f) ns n a (row + a.offset.toNat)))) ∧ Below w.heap.size w w' := by
  obtain ⟨w1, e1, x1, b1, s1⟩ := box9 w a o cap 2 r a.kids.length c
  obtain ⟨w2, e2, s2, c2, b2⟩ := boxed w1 (.int .i64 ((row + a.offset.toNat : Nat) : Int)) 3
  have hC := mayF_cases hf
  have hpl : plainB (mayF ns f) ns n a = true := by
    rcases hC.2 with q | q
    · exact q.2
    · exact absurd hL q.1
  have hoff := hC.1.off
  have hrows := hC.1.rows
  have hP64 : row + a.offset.toNat ≤ 64 := by omega
  have B2 : Hid (Below w.heap.size w w2) := bel2 b1 b2
  have X2 : Hid (Rx w2 w.heap.size a o cap 2 r a.kids.length c) := x1.later b2
  have HC2 : Hid (w2.cell? ⟨w1.heap.size, 0, none⟩ = some (.int .i64 ((row + a.offset.toNat : Nat) : Int))) := c2
  have HOM : Hid (∀ v, Below w.heap.size w v → Home v) := fun v hv => hw.out.later hv
  have HKD : Hid ((nd ns n).kind = 2) := hk
  obtain ⟨h4, h5, h6, h7⟩ := at_bytes hC.1 hpl hk hr
  have hd := hC.1.data
  have he := hC.1.ends
  have HSP : Hid (∀ v, Calls Tryz.prog 144 #[rdVal a o cap (nd ns n).kind r a.kids.length c, .int .i64 ((row + a.offset.toNat : Nat) : Int)] v fun e w' => e = .returned (.tuple #[.int .i64 ((endAt a.ends (row + a.offset.toNat) : Nat) : Int), .int .i64 ((endAt a.ends (row + a.offset.toNat + 1) : Nat) : Int)]) ∧ Below v.heap.size v w') := fun v => rspan a o cap _ r _ c _ he hP64 h4 h5 v
  have HBY : Hid (∀ (v : World) (x y : Nat), Below w.heap.size w v → Calls Tryz.prog 145 #[.string (a.data.extract x y)] v fun r w' => r = .returned (.string (mk (bytesM (part a.data x y)))) ∧ Below v.heap.size v w') := fun v x y hv => by
    have := bytesC (a.data.extract x y) (by rw [ByteArray.size_extract]; omega) v (HOM.out v hv)
    rw [bl_extract] at this
    exact this
  have HPR : Hid (plainRow (rowF ns f) ns n a (row + a.offset.toNat) = bytesM (part a.data (endAt a.ends (row + a.offset.toNat)) (endAt a.ends (row + a.offset.toNat + 1)))) := by unfold Hid plainRow; rw [if_neg (by omega), if_neg (by omega), if_pos hk]
  clear h4 h5 he
  unfold rdVal at HSP
  rw [hk] at HSP
  clear s1 s2 c2 b1 b2 x1 hw hpl hC hf hr hL
  unfold rdVal
  rw [hk]
  clear hk
  generalize plainRow (rowF ns f) ns n a (row + a.offset.toNat) = V at *
  generalize hPP : row + a.offset.toNat = P at *
  clear hPP
  have d0 := X2.out.c0
  have d1 := X2.out.c1
  have d2 := X2.out.c2
  have d3 := X2.out.c3
  have d4 := X2.out.c4
  have d5 := X2.out.c5
  have d6 := X2.out.c6
  have d7 := X2.out.c7
  have d8 := X2.out.c8
  have c3 := HC2.out
  go_enter Tryz.func81, Tryz.ntmps81
  generalize endAt a.ends P = E at *
  generalize endAt a.ends (P + 1) = E2 at *
  have j0 : (0 : Int) ≤ (E : Int) := Int.natCast_nonneg _
  have j1 : (E : Int) ≤ (E2 : Int) := by omega
  have j2 : (E2 : Int) ≤ (a.data.size : Int) := by omega
  go_wp2_with fail
  refine (HSP.out w2).mono ?_
  rintro e w3 ⟨rfl, b3⟩
  have B3 : Hid (Below w.heap.size w w3) := bel2 B2.out b3
  have d5 := (X2.out.later b3).c5
  clear b3 c3
  go_wp2_with fail
  refine (HBY.out w3 E E2 B3.out).mono ?_
  rintro e w4 ⟨rfl, b4⟩
  have B4 : Hid (Below w.heap.size w w4) := bel2 B3.out b4
  clear b4
  go_wp2
  go_ret
  exact ⟨ret_str (by rw [HPR.out]), B4.out⟩
set_option maxRecDepth 20000 in
set_option maxHeartbeats 3200000 in
theorem rdList (f : Nat) (ih : Hid (ReadC f)) (ns : List Nd) (n : Nat) (a : Arr) (o : Option Addr) (cap : Nat) (r : Option Addr) (c row : Nat) (w : World) (hn : n < ns.length) (hm : may ns = true) (hf : mayF ns (f + 1) n a = true) (hr : (row : Int) < a.length) (hw : Hid (Home w)) (hH : Hid (HoldsRd w ns (f + 1) n (rdCells a o cap (nd ns n).kind r a.kids.length c) a)) (hL : a.layout = 0) (hk : (nd ns n).kind = 3) :
    Calls Tryz.prog 81 #[rdVal a o cap (nd ns n).kind r a.kids.length c, .int .i64 ((row + a.offset.toNat : Nat) : Int)] w fun e w' => e = .returned (.string (mk (plainRow (rowF ns f) ns n a (row + a.offset.toNat)))) ∧ Below w.heap.size w w' := by
  obtain ⟨w1, e1, x1, b1, s1⟩ := box9 w a o cap 3 r a.kids.length c
  obtain ⟨w2, e2, s2, c2, b2⟩ := boxed w1 (.int .i64 ((row + a.offset.toNat : Nat) : Int)) 3
  have hC := mayF_cases hf
  have hpl : plainB (mayF ns f) ns n a = true := by
    rcases hC.2 with q | q
    · exact q.2
    · exact absurd hL q.1
  have hoff := hC.1.off
  have hrows := hC.1.rows
  have hP64 : row + a.offset.toNat ≤ 64 := by omega
  have B2 : Hid (Below w.heap.size w w2) := bel2 b1 b2
  have X2 : Hid (Rx w2 w.heap.size a o cap 3 r a.kids.length c) := x1.later b2
  have HC2 : Hid (w2.cell? ⟨w1.heap.size, 0, none⟩ = some (.int .i64 ((row + a.offset.toNat : Nat) : Int))) := c2
  have HOM : Hid (∀ v, Below w.heap.size w v → Home v) := fun v hv => hw.out.later hv
  have HKD : Hid ((nd ns n).kind = 3) := hk
  obtain ⟨h4, h5, h6, h7, h8, h9⟩ := at_list hC.1 hpl hk hr
  have hd := hC.1.data
  have he := hC.1.ends
  have HSP : Hid (∀ v, Calls Tryz.prog 144 #[rdVal a o cap (nd ns n).kind r a.kids.length c, .int .i64 ((row + a.offset.toNat : Nat) : Int)] v fun e w' => e = .returned (.tuple #[.int .i64 ((endAt a.ends (row + a.offset.toNat) : Nat) : Int), .int .i64 ((endAt a.ends (row + a.offset.toNat + 1) : Nat) : Int)]) ∧ Below v.heap.size v w') := fun v => rspan a o cap _ r _ c _ he hP64 h4 h5 v
  have h1k : (kids ns n).length = 1 := (may_of hm).list n hn hk
  have hkn : kAt ns n 0 < ns.length := kids_lt n 0 (by omega)
  have hk64 : (kidAt a 0).length ≤ 64 := by
    obtain ⟨g, rfl⟩ : ∃ g, f = g + 1 := by
      cases f with
      | zero => cases h9
      | succ g => exact ⟨g, rfl⟩
    have := (mayF_cases h9).1
    have h1 := this.off
    have h2 := this.rows
    omega
  have hkN : kidNode ns n a 0 = kAt ns n 0 := by unfold kidNode; rw [if_pos hL]
  obtain ⟨g, ok, ck, rk, cc, rfl, hcell, hkh⟩ := hH.out.kid (i := 0) (by omega)
  rw [hkN] at hcell hkh
  simp only [Nat.zero_mul, Nat.zero_add] at hcell
  have HCE : Hid (∀ j v, j < 9 → (rdCells (kidAt a 0) ok ck (nd ns (kAt ns n 0)).kind rk (kidAt a 0).kids.length cc)[j]? = some v → w.cell? ⟨g, j, none⟩ = some v) := hcell
  have HMM : Hid (∀ v (x : Nat), Below w.heap.size w v → (x : Int) < (kidAt a 0).length → Calls Tryz.prog 47 #[rdVal (kidAt a 0) ok ck (nd ns (kAt ns n 0)).kind rk (kidAt a 0).kids.length cc, .int .i64 (x : Int)] v fun e w' => e = .returned (.string (mk (rowF ns f (kAt ns n 0) (kidAt a 0) x))) ∧ Below v.heap.size v w') := fun v x hv hx => ih.out ns (kAt ns n 0) (kidAt a 0) ok ck rk cc x v hkn hm h9 hx (HOM.out v hv) (hkh.later hv)
  have HSH : Hid (∀ x : Nat, (x : Int) < (kidAt a 0).length → (rowF ns f (kAt ns n 0) (kidAt a 0) x).length ≤ 11264) := fun x hx => row_short (may_of hm) hkn h9 hx
  have HPR : Hid (plainRow (rowF ns f) ns n a (row + a.offset.toNat) = listM ((List.range (endAt a.ends (row + a.offset.toNat + 1) - endAt a.ends (row + a.offset.toNat))).map fun j => rowF ns f (kAt ns n 0) (kidAt a 0) (endAt a.ends (row + a.offset.toNat) + j))) := by unfold Hid plainRow; rw [if_neg (by omega), if_neg (by omega), if_neg (by omega), if_pos hk]
  have HK1 : Hid (a.kids.length = 1) := h8
  clear h4 h5 he hd h9 hcell hkh h1k hkN ih h8
  unfold rdVal at HSP
  rw [hk] at HSP
  clear s1 s2 c2 b1 b2 x1 hw hpl hC hf hr hL
  unfold rdVal
  rw [hk]
  clear hk
  generalize plainRow (rowF ns f) ns n a (row + a.offset.toNat) = V at *
  generalize hPP : row + a.offset.toNat = P at *
  clear hPP
  have d0 := X2.out.c0
  have d1 := X2.out.c1
  have d2 := X2.out.c2
  have d3 := X2.out.c3
  have d4 := X2.out.c4
  have d5 := X2.out.c5
  have d6 := X2.out.c6
  have d7 := X2.out.c7
  have d8 := X2.out.c8
  have c3 := HC2.out
  go_enter Tryz.func81, Tryz.ntmps81
  generalize endAt a.ends P = E at *
  generalize endAt a.ends (P + 1) = E2 at *
  generalize kidAt a 0 = kk at *
  generalize hG : (fun j => rowF ns f (kAt ns n 0) kk (E + j)) = G at *
  have HG : Hid (∀ j, rowF ns f (kAt ns n 0) kk (E + j) = G j) := fun j => by rw [← hG]
  have HE2 : Hid ((E2 : Int) ≤ kk.length ∧ E ≤ E2 ∧ E2 ≤ 64) := ⟨h7, h6, by omega⟩
  have j1 : (E : Int) ≤ (E2 : Int) := by omega
  have j2 : (E2 : Int) ≤ 64 := by omega
  have hd2 : (E2 : Int) - (E : Int) = ((E2 - E : Nat) : Int) := by omega
  clear hG h6 h7
  go_wp2_with fail
  refine (HSP.out w2).mono ?_
  rintro e w3 ⟨rfl, b3⟩
  have B3 : Hid (Below w.heap.size w w3) := bel2 B2.out b3
  have X3 : Hid (Rx w3 w.heap.size a o cap 3 (some ⟨g, 0, none⟩) a.kids.length c) := X2.out.later b3
  obtain ⟨w4, e4, s4, c4, b4⟩ := boxed w3 (.int .i64 0) 3
  have hf4 : w4.heap[w3.heap.size]? = some (.cells #[.int .i64 0] 3) := by rw [← e4]; exact heap_alloc_new _ _
  have f4 : w4.frozen? ⟨w3.heap.size, 0, none⟩ = false := by simp [World.frozen?, hf4]
  obtain ⟨w5, e5⟩ : ∃ w5, w4.setCell ⟨w3.heap.size, 0, none⟩ (.int .i64 (E : Int)) = w5 := ⟨_, rfl⟩
  have B35 : Hid (Below w3.heap.size w3 w5) := by rw [← e5]; exact b4.setCell (Nat.le_refl _) _
  have B5 : Hid (Below w.heap.size w w5) := bel2 B3.out B35.out
  have HF5 : Hid (w5.cell? ⟨w3.heap.size, 0, none⟩ = some (.int .i64 (E : Int))) := by
    have := blk_set hf4 0 (.int .i64 (E : Int))
    rw [e5] at this
    unfold Hid
    simp [World.cell?, this]
  have X5 : Hid (Rx w5 w.heap.size a o cap 3 (some ⟨g, 0, none⟩) a.kids.length c) := X3.out.later B35.out
  clear b3 b4 hf4 s4 c3 d0 d1 d2 d3 d4 d5 d6 d7 d8
  go_upto_region 13 with fail
  try rw [e5]
  clear e4 e5 c4 f4
  have HR5 : Hid (w5.cell? ⟨w.heap.size, 8, none⟩ = some (.slice (some ⟨g, 0, none⟩) a.kids.length c)) := X5.out.c8
  have HGA : Hid (Calls Tryz.prog 45 #[.int .i64 ((E2 - E : Nat) : Int), .func (.func 147) #[] #[.pointer (some ⟨w.heap.size, 0, none⟩), .pointer (some ⟨w3.heap.size, 0, none⟩)]] w5 fun r w' => ∃ o c, r = .returned (.slice o (E2 - E) c) ∧ w'.ownsRow w5.heap.size 9 1 (.slice o (E2 - E) c) (E2 - E) (Texts.cellsT (told G (E2 - E))) ∧ Below w5.heap.size w5 w') := by
    refine gather139 (E2 - E) (by have := HE2.out; omega) w.heap.size w3.heap.size G w5 (fun k v hk hv => ?_)
    have hbv : Below w.heap.size w v := bel2 B5.out hv
    refine tellList w.heap.size w3.heap.size g a.kids.length c E k kk ok ck (nd ns (kAt ns n 0)).kind rk kk.kids.length cc (mk (G k)) v (by rw [HK1.out]; omega) (by have := HE2.out; omega) (by have := HE2.out; omega) (cell_later hv HR5.out) (cell_later hv HF5.out) (fun j u hj hu => cell_later hbv (HCE.out j u hj hu)) (fun u hu => ?_)
    rw [← HG.out k, show (E : Int) + (k : Int) = ((E + k : Nat) : Int) from by omega]
    exact HMM.out u (E + k) (bel2 hbv hu) (by have := HE2.out; omega)
  have hfl : (flat (told G (E2 - E))).length ≤ 140737488355328 := by
    have := told_flat G 11264 (E2 - E) (fun j hj => by rw [← HG.out j]; exact HSH.out _ (by have := HE2.out; omega))
    have h2 := HE2.out
    have : 11264 * (E2 - E) ≤ 11264 * 64 := Nat.mul_le_mul_left _ (by omega)
    omega
  have HFL : Hid ((flat (told G (E2 - E))).length ≤ 140737488355328) := hfl
  have hcF := HF5.out
  clear hfl
  go_wp2_with fail
  refine HGA.out.mono ?_
  rintro e w6 ⟨o6, c6, rfl, hown, b6⟩
  have B6 : Hid (Below w.heap.size w w6) := bel2 B5.out b6
  have HL : Hid (Calls Tryz.prog 146 #[.slice o6 (E2 - E) c6] w6 fun r w' => r = .returned (.string (mk (listM ((told G (E2 - E)).map bl)))) ∧ Below w6.heap.size w6 w') := by
    have hl := length_told G (E2 - E)
    have htx : Texts.IsTx w6 o6 (told G (E2 - E)) := by
      have h := hown
      rw [← hl] at h
      rw [hl] at h
      exact Texts.own_texts (T := 9) (b := w5.heap.size) (c := c6) (by rw [hl]; exact hown)
    have hcap : E2 - E ≤ c6 := own_cap hown
    have := listC o6 c6 (told G (E2 - E)) (by rw [hl]; exact hcap) HFL.out (by rw [hl]; have := HE2.out; omega) w6 htx
    rw [hl] at this
    exact this
  clear hown b6 hcF
  go_wp2_with fail
  refine HL.out.mono ?_
  rintro e w7 ⟨rfl, b7⟩
  have B7 : Hid (Below w.heap.size w w7) := bel2 B6.out b7
  have HRS : Hid (mk (listM ((told G (E2 - E)).map bl)) = mk V) := by
    unfold Hid
    rw [HPR.out, told_bl]
  clear b7
  go_wp2
  go_ret
  exact ⟨ret_str HRS.out, B7.out⟩
set_option maxRecDepth 20000 in
set_option maxHeartbeats 3200000 in
theorem rdStruct (f : Nat) (ih : Hid (ReadC f)) (ns : List Nd) (n : Nat) (a : Arr) (o : Option Addr) (cap : Nat) (r : Option Addr) (c row : Nat) (w : World) (hn : n < ns.length) (hm : may ns = true) (hf : mayF ns (f + 1) n a = true) (hr : (row : Int) < a.length) (hw : Hid (Home w)) (hH : Hid (HoldsRd w ns (f + 1) n (rdCells a o cap (nd ns n).kind r a.kids.length c) a)) (hL : a.layout = 0) (hk : (nd ns n).kind = 4) :
    Calls Tryz.prog 81 #[rdVal a o cap (nd ns n).kind r a.kids.length c, .int .i64 ((row + a.offset.toNat : Nat) : Int)] w fun e w' => e = .returned (.string (mk (plainRow (rowF ns f) ns n a (row + a.offset.toNat)))) ∧ Below w.heap.size w w' := by
  obtain ⟨w1, e1, x1, b1, s1⟩ := box9 w a o cap 4 r a.kids.length c
  obtain ⟨w2, e2, s2, c2, b2⟩ := boxed w1 (.int .i64 ((row + a.offset.toNat : Nat) : Int)) 3
  have hC := mayF_cases hf
  have hpl : plainB (mayF ns f) ns n a = true := by
    rcases hC.2 with q | q
    · exact q.2
    · exact absurd hL q.1
  have hoff := hC.1.off
  have hrows := hC.1.rows
  have hP64 : row + a.offset.toNat ≤ 64 := by omega
  have B2 : Hid (Below w.heap.size w w2) := bel2 b1 b2
  have X2 : Hid (Rx w2 w.heap.size a o cap 4 r a.kids.length c) := x1.later b2
  have HC2 : Hid (w2.cell? ⟨w1.heap.size, 0, none⟩ = some (.int .i64 ((row + a.offset.toNat : Nat) : Int))) := c2
  have HOM : Hid (∀ v, Below w.heap.size w v → Home v) := fun v hv => hw.out.later hv
  have HKD : Hid ((nd ns n).kind = 4) := hk
  obtain ⟨hks, hkm⟩ := at_struct hC.1 hpl hk hr
  have hmost := (may_of hm).most
  have hkl : (kids ns n).length ≤ ns.length := length_kidsTo ns n ns.length
  have hK8 : a.kids.length ≤ 8 := by omega
  have HMM : Hid (∀ k, k < a.kids.length → ∃ g ok ck rk cc, r = some ⟨g, 0, none⟩ ∧ (∀ j v, j < 9 → (rdCells (kidAt a k) ok ck (nd ns (kAt ns n k)).kind rk (kidAt a k).kids.length cc)[j]? = some v → w.cell? ⟨g, k * 9 + j, none⟩ = some v) ∧ ∀ v, Below w.heap.size w v → Calls Tryz.prog 47 #[rdVal (kidAt a k) ok ck (nd ns (kAt ns n k)).kind rk (kidAt a k).kids.length cc, .int .i64 ((row + a.offset.toNat : Nat) : Int)] v fun e w' => e = .returned (.string (mk (rowF ns f (kAt ns n k) (kidAt a k) (row + a.offset.toNat)))) ∧ Below v.heap.size v w') := fun k hk2 => by
    have hkN : kidNode ns n a k = kAt ns n k := by unfold kidNode; rw [if_pos hL]
    obtain ⟨g, ok, ck, rk, cc, e, hcell, hkh⟩ := hH.out.kid (i := k) hk2
    rw [hkN] at hcell hkh
    obtain ⟨m1, m2⟩ := hkm k (by omega)
    exact ⟨g, ok, ck, rk, cc, e, hcell, fun v hv => ih.out ns (kAt ns n k) (kidAt a k) ok ck rk cc _ v (kids_lt n k (by omega)) hm m1 m2 (HOM.out v hv) (hkh.later hv)⟩
  have HSH : Hid (∀ k, k < a.kids.length → (rowF ns f (kAt ns n k) (kidAt a k) (row + a.offset.toNat)).length ≤ 11264) := fun k hk2 => row_short (may_of hm) (kids_lt n k (by omega)) (hkm k (by omega)).1 (hkm k (by omega)).2
  have HK8 : Hid (a.kids.length ≤ 8) := hK8
  have HPR : Hid (plainRow (rowF ns f) ns n a (row + a.offset.toNat) = structM ((List.range a.kids.length).map fun i => rowF ns f (kAt ns n i) (kidAt a i) (row + a.offset.toNat))) := by unfold Hid plainRow; rw [if_neg (by omega), if_neg (by omega), if_neg (by omega), if_neg (by omega), hks]
  clear hks hkm ih hkl hmost hK8
  clear s1 s2 c2 b1 b2 x1 hw hpl hC hf hr hL
  unfold rdVal
  rw [hk]
  clear hk
  generalize plainRow (rowF ns f) ns n a (row + a.offset.toNat) = V at *
  generalize hPP : row + a.offset.toNat = P at *
  clear hPP
  have d0 := X2.out.c0
  have d1 := X2.out.c1
  have d2 := X2.out.c2
  have d3 := X2.out.c3
  have d4 := X2.out.c4
  have d5 := X2.out.c5
  have d6 := X2.out.c6
  have d7 := X2.out.c7
  have d8 := X2.out.c8
  have c3 := HC2.out
  go_enter Tryz.func81, Tryz.ntmps81
  generalize hG : (fun i => rowF ns f (kAt ns n i) (kidAt a i) P) = G at *
  have HG : Hid (∀ i, rowF ns f (kAt ns n i) (kidAt a i) P = G i) := fun i => by rw [← hG]
  clear hG
  have HGA : Hid (Calls Tryz.prog 45 #[.int .i64 ((a.kids.length : Nat) : Int), .func (.func 149) #[] #[.pointer (some ⟨w.heap.size, 0, none⟩), .pointer (some ⟨w1.heap.size, 0, none⟩)]] w2 fun r w' => ∃ o c, r = .returned (.slice o a.kids.length c) ∧ w'.ownsRow w2.heap.size 9 1 (.slice o a.kids.length c) a.kids.length (Texts.cellsT (told G a.kids.length)) ∧ Below w2.heap.size w2 w') := by
    refine gather141 a.kids.length (by have := HK8.out; omega) w.heap.size w1.heap.size G w2 (fun k v hk hv => ?_)
    have hbv : Below w.heap.size w v := bel2 B2.out hv
    obtain ⟨g, ok, ck, rk, cc, er, hcell, hcall⟩ := HMM.out k hk
    have h8 := (X2.out.later hv).c8
    rw [er] at h8
    refine tellStruct w.heap.size w1.heap.size g a.kids.length c P k (kidAt a k) ok ck (nd ns (kAt ns n k)).kind rk (kidAt a k).kids.length cc (mk (G k)) v hk h8 (cell_later hv HC2.out) (fun j u hj hu => cell_later hbv (hcell j u hj hu)) (fun u hu => ?_)
    rw [← HG.out k]
    exact hcall u (bel2 hbv hu)
  have hfl : (flat (told G a.kids.length)).length ≤ 140737488355328 := by
    have := told_flat G 11264 a.kids.length (fun j hj => by rw [← HG.out j]; exact HSH.out _ hj)
    have h2 := HK8.out
    have : 11264 * a.kids.length ≤ 11264 * 8 := Nat.mul_le_mul_left _ h2
    omega
  have HFL : Hid ((flat (told G a.kids.length)).length ≤ 140737488355328) := hfl
  clear hfl
  generalize hNK : a.kids.length = NK at *
  go_wp2_with fail
  refine HGA.out.mono ?_
  rintro e w6 ⟨o6, c6, rfl, hown, b6⟩
  have B6 : Hid (Below w.heap.size w w6) := bel2 B2.out b6
  have HL : Hid (Calls Tryz.prog 148 #[.slice o6 NK c6] w6 fun r w' => r = .returned (.string (mk (structM ((told G NK).map bl)))) ∧ Below w6.heap.size w6 w') := by
    have hl := length_told G NK
    have hcap : NK ≤ c6 := own_cap hown
    have := structC o6 c6 (told G NK) (by rw [hl]; exact hcap) HFL.out (by rw [hl]; have := HK8.out; omega) w6 (Texts.own_texts (T := 9) (b := w2.heap.size) (c := c6) (by rw [hl]; exact hown))
    rw [hl] at this
    exact this
  clear hown b6 c3 d0 d1 d2 d3 d4 d5 d6 d7 d8
  go_wp2_with fail
  refine HL.out.mono ?_
  rintro e w7 ⟨rfl, b7⟩
  have B7 : Hid (Below w.heap.size w w7) := bel2 B6.out b7
  have HRS : Hid (mk (structM ((told G NK).map bl)) = mk V) := by
    unfold Hid
    rw [HPR.out, told_bl]
  clear b7
  go_wp2
  go_ret
  exact ⟨ret_str HRS.out, B7.out⟩
end Go.Proofs.YtcpfhfdgfcilaaaGreatDoor.Arr
set_option linter.unusedVariables false
set_option linter.unusedSimpArgs false
namespace Go.Proofs.YtcpfhfdgfcilaaaGreatDoor.Arr
open Go.ChangeShapes Go.WideShapes Go.ChangeAt Go.RowKit
open Tree Val

theorem rdPlain (f : Nat) (ih : Hid (ReadC f)) (ns : List Nd) (n : Nat) (a : Arr) (o : Option Addr) (cap : Nat) (r : Option Addr) (c row : Nat) (w : World) (hn : n < ns.length) (hm : may ns = true) (hf : mayF ns (f + 1) n a = true) (hr : (row : Int) < a.length) (hw : Hid (Home w)) (hH : Hid (HoldsRd w ns (f + 1) n (rdCells a o cap (nd ns n).kind r a.kids.length c) a)) (hL : a.layout = 0) :
    Calls Tryz.prog 81 #[rdVal a o cap (nd ns n).kind r a.kids.length c, .int .i64 ((row + a.offset.toNat : Nat) : Int)] w fun e w' => e = .returned (.string (mk (plainRow (rowF ns f) ns n a (row + a.offset.toNat)))) ∧ Below w.heap.size w w' := by
  rcases kinds (may_of hm) hn with e | e | e | e | e
  · exact rdInt f ns n a o cap r c row w hn hm hf hr hw hH hL e
  · exact rdBool f ns n a o cap r c row w hn hm hf hr hw hH hL e
  · exact rdBytes f ns n a o cap r c row w hn hm hf hr hw hH hL e
  · exact rdList f ih ns n a o cap r c row w hn hm hf hr hw hH hL e
  · exact rdStruct f ih ns n a o cap r c row w hn hm hf hr hw hH hL e
set_option maxRecDepth 20000 in
set_option maxHeartbeats 3200000 in
theorem read_step (f : Nat) (ih : Hid (ReadC f)) : ReadC (f + 1) := by
  intro ns n a o cap r c row w hn hm hf hr hw0 hH0
  have hw : Hid (Home w) := hw0
  have hH : Hid (HoldsRd w ns (f + 1) n (rdCells a o cap (nd ns n).kind r a.kids.length c) a) := hH0
  obtain ⟨w1, e1, x1, b1, s1⟩ := box9 w a o cap (nd ns n).kind r a.kids.length c
  have hC := mayF_cases hf
  have hoff := hC.1.off
  have hrows := hC.1.rows
  have hlen := hC.1.len
  have hPE : a.offset + (row : Int) = ((row + a.offset.toNat : Nat) : Int) := by omega
  have hP64 : row + a.offset.toNat ≤ 64 := by omega
  have HTH : Hid (∀ v, Calls Tryz.prog 77 #[.string a.valid, .int .i64 ((row + a.offset.toNat : Nat) : Int)] v fun e w' => e = .returned (.bool (there a (row + a.offset.toNat))) ∧ w' = v) := fun v => isThere a _ hC.1.valid (by
    rcases hC.1.null with c | c
    · exact .inl c
    · have := c.2; unfold rowsOf at this; right; omega) v
  have B1 : Hid (Below w.heap.size w w1) := b1
  have X1 : Hid (Rx w1 w.heap.size a o cap (nd ns n).kind r a.kids.length c) := x1
  have HRW := rowF_succ ns f n a row
  have hrow64 : row ≤ 64 := by omega
  have ho64 : a.offset ≤ 64 := by omega
  by_cases hT : there a (row + a.offset.toNat) = false
  · have HV : Hid (rowF ns (f + 1) n a row = nullM) := by unfold Hid; rw [HRW, if_pos hT]
    rw [hT] at HTH
    clear HRW b1 x1 s1 hw hH hw0 hH0 hC hf hm hT ih
    generalize rowF ns (f + 1) n a row = V at *
    generalize hPP : row + a.offset.toNat = P at *
    clear hPP
    unfold rdVal
    have d0 := X1.out.c0
    have d1 := X1.out.c1
    have d2 := X1.out.c2
    have d3 := X1.out.c3
    have d4 := X1.out.c4
    have d5 := X1.out.c5
    have d6 := X1.out.c6
    have d7 := X1.out.c7
    have d8 := X1.out.c8
    go_enter Tryz.func47, Tryz.ntmps47
    go_wp2_with fail
    refine (HTH.out w1).mono ?_
    rintro e wx ⟨rfl, hv⟩
    subst wx
    go_wp2_with fail
    refine (nullC w1).mono ?_
    rintro e wx ⟨rfl, hv⟩
    subst wx
    go_wp2
    go_ret
    exact ⟨ret_str (by rw [HV.out]; rfl), B1.out⟩
  have hT' : there a (row + a.offset.toNat) = true := by
    cases q : there a (row + a.offset.toNat)
    · exact absurd q hT
    · rfl
  rw [if_neg hT] at HRW
  rw [hT'] at HTH
  by_cases hL : a.layout = 0
  · have HV : Hid (rowF ns (f + 1) n a row = plainRow (rowF ns f) ns n a (row + a.offset.toNat)) := by unfold Hid; rw [HRW, if_pos hL]
    have HPL : Hid (Calls Tryz.prog 81 #[rdVal a o cap (nd ns n).kind r a.kids.length c, .int .i64 ((row + a.offset.toNat : Nat) : Int)] w1 fun e w' => e = .returned (.string (mk (plainRow (rowF ns f) ns n a (row + a.offset.toNat)))) ∧ Below w1.heap.size w1 w') := rdPlain f ih ns n a o cap r c row w1 hn hm hf hr (hw.out.later b1) (hH.out.later b1) hL
    have q1 : (a.layout == 1) = false := by rw [beq_eq_false_iff_ne]; omega
    have q2 : (a.layout == 2) = false := by rw [beq_eq_false_iff_ne]; omega
    clear HRW b1 x1 s1 hw hH hw0 hH0 hC hf hm hT hT' hL ih
    generalize rowF ns (f + 1) n a row = V at *
    generalize plainRow (rowF ns f) ns n a (row + a.offset.toNat) = U at *
    generalize hPP : row + a.offset.toNat = P at *
    clear hPP
    unfold rdVal at HPL ⊢
    have d0 := X1.out.c0
    have d1 := X1.out.c1
    have d2 := X1.out.c2
    have d3 := X1.out.c3
    have d4 := X1.out.c4
    have d5 := X1.out.c5
    have d6 := X1.out.c6
    have d7 := X1.out.c7
    have d8 := X1.out.c8
    go_enter Tryz.func47, Tryz.ntmps47
    go_wp2_with fail
    refine (HTH.out w1).mono ?_
    rintro e wx ⟨rfl, hv⟩
    subst wx
    go_wp2_with fail
    refine HPL.out.mono ?_
    rintro e w2 ⟨rfl, b2⟩
    have B2 : Hid (Below w.heap.size w w2) := bel2 B1.out b2
    clear b2
    go_wp2
    go_ret
    exact ⟨ret_str (by rw [HV.out]), B2.out⟩
  obtain ⟨hk1, hkl, hkf, hlay⟩ : a.kids.length = 1 ∧ (kidAt a 0).layout = 0 ∧ mayF ns f n (kidAt a 0) = true ∧ (a.layout = 1 ∧ dictB a = true ∨ a.layout = 2 ∧ runB a = true) := by
    rcases hC.2 with q | q
    · exact absurd q.1 hL
    · exact ⟨q.2.2.1, q.2.2.2.1, q.2.2.2.2.1, q.2.2.2.2.2⟩
  have hkN : kidNode ns n a 0 = n := by unfold kidNode; rw [if_neg hL]
  obtain ⟨g, ok, ck, rk, cc, rfl, hcell, hkh⟩ := hH.out.kid (i := 0) (by omega)
  rw [hkN] at hcell hkh
  simp only [Nat.zero_mul, Nat.zero_add] at hcell
  have HMM : Hid (∀ v (x : Nat), Below w.heap.size w v → (x : Int) < (kidAt a 0).length → Calls Tryz.prog 47 #[rdVal (kidAt a 0) ok ck (nd ns n).kind rk (kidAt a 0).kids.length cc, .int .i64 (x : Int)] v fun e w' => e = .returned (.string (mk (rowF ns f n (kidAt a 0) x))) ∧ Below v.heap.size v w') := fun v x hv hx => ih.out ns n (kidAt a 0) ok ck rk cc x v hn hm hkf hx (hw.out.later hv) (hkh.later hv)
  have hcell1 : ∀ j v, j < 9 → (rdCells (kidAt a 0) ok ck (nd ns n).kind rk (kidAt a 0).kids.length cc)[j]? = some v → w1.cell? ⟨g, 0 + j, none⟩ = some v := fun j v hj hv => by rw [Nat.zero_add]; exact cell_later b1 (hcell j v hj hv)
  have RK := rk_of hcell1
  have hd := hC.1.data
  rw [if_neg hL] at HRW
  rcases hlay with ⟨hL1, hdd⟩ | ⟨hL2, hdd⟩
  · have h4 : has4 a.data (row + a.offset.toNat) = true := dict_has hC.1 hdd hr hT'
    have hlt := dict_row hC.1 hdd hr hT'
    have HV : Hid (rowF ns (f + 1) n a row = rowF ns f n (kidAt a 0) (endAt a.data (row + a.offset.toNat))) := by unfold Hid; rw [HRW, if_pos hL1]
    have HSH : Hid (∀ v, Calls Tryz.prog 79 #[.string a.data, .int .i64 ((row + a.offset.toNat : Nat) : Int)] v fun r w' => r = .returned (.int .i64 ((endAt a.data (row + a.offset.toNat) : Nat) : Int)) ∧ w' = v) := fun v => rshort a.data _ hd h4 (by omega) v
    have HM1 : Hid (∀ v, Below w1.heap.size w1 v → Calls Tryz.prog 47 #[rdVal (kidAt a 0) ok ck (nd ns n).kind rk (kidAt a 0).kids.length cc, .int .i64 ((endAt a.data (row + a.offset.toNat) : Nat) : Int)] v fun e w' => e = .returned (.string (mk (rowF ns f n (kidAt a 0) (endAt a.data (row + a.offset.toNat))))) ∧ Below v.heap.size v w') := fun v hv => HMM.out v _ (bel2 B1.out hv) hlt
    have q1 : (a.layout == 1) = true := by rw [beq_iff_eq]; exact hL1
    have HK1 : Hid (a.kids.length = 1) := hk1
    clear HMM HRW h4 hlt hL hL1 hdd hd hT hT' hcell hcell1 hkh hkN hkf hkl hk1 hC hf hm hw hH hw0 hH0 ih
    have k0 := RK.k0
    have k1 := RK.k1
    have k2 := RK.k2
    have k3 := RK.k3
    have k4 := RK.k4
    have k5 := RK.k5
    have k6 := RK.k6
    have k7 := RK.k7
    have k8 := RK.k8
    simp only [Nat.zero_add] at k1 k2 k3 k4 k5 k6 k7 k8
    have e5 : ∀ s : BW w1, s.w.cell? ⟨w.heap.size, 5, none⟩ = some (.string a.data) := fun s => (X1.out.later s.ok).c5
    have e8 : ∀ s : BW w1, s.w.cell? ⟨w.heap.size, 8, none⟩ = some (.slice (some ⟨g, 0, none⟩) 1 c) := fun s => by
      have := (X1.out.later s.ok).c8
      rw [HK1.out] at this
      exact this
    have hne := BW.some w1
    generalize rowF ns (f + 1) n a row = V at *
    generalize rowF ns f n (kidAt a 0) (endAt a.data (row + a.offset.toNat)) = U at *
    generalize endAt a.data (row + a.offset.toNat) = E at *
    generalize kidAt a 0 = kk at *
    generalize hPP : row + a.offset.toNat = P at *
    clear hPP RK s1 b1 x1
    unfold rdVal at HM1 ⊢
    have d0 := X1.out.c0
    have d1 := X1.out.c1
    have d2 := X1.out.c2
    have d3 := X1.out.c3
    have d4 := X1.out.c4
    have d5 := X1.out.c5
    have d6 := X1.out.c6
    have d7 := X1.out.c7
    have d8 := X1.out.c8
    go_enter Tryz.func47, Tryz.ntmps47
    go_wp2_with fail
    refine (HTH.out w1).mono ?_
    rintro e wx ⟨rfl, hv⟩
    subst wx
    go_wp2_with fail
    refine region_in (C := fun w' => ∃ s : BW w1, w' = s.w) (by kernel_rfl) (by kernel_rfl) ⟨⟨w1.drew, (Below.refl _ _).drew⟩, rfl⟩ ?_
    repeat (go_big_quiet_step (first
      | (go_at_call 79; rename_i s; refine (HSH.out s.w).mono ?_; rintro e wx ⟨rfl, hv⟩; exact ⟨rfl, ⟨s.w, s.ok⟩, hv⟩)
      | (go_at_call 47; rename_i s; refine (HM1.out s.w s.ok).mono ?_; rintro e wx ⟨rfl, hbx⟩; exact ⟨rfl, ⟨wx, bel2 s.ok hbx⟩, rfl⟩)))
    refine wpQuiet_nil ?_
    intro _ hw'
    obtain ⟨s, hw''⟩ := hw'
    subst hw''
    have HE : Hid (Below w.heap.size w s.w) := bel2 B1.out s.ok
    clear hne e5 e8 k0 k1 k2 k3 k4 k5 k6 k7 k8
    go_wp2
    go_ret
    exact ⟨ret_str (by rw [HV.out]), HE.out⟩
  · obtain ⟨hr1, hr2, hr3⟩ := run_has hC.1 hdd hr
    have hlt := run_row hC.1 hdd hr
    have HV : Hid (rowF ns (f + 1) n a row = rowF ns f n (kidAt a 0) (runAt a.data (row + a.offset.toNat) (kidAt a 0).length.toNat 0)) := by unfold Hid; rw [HRW, if_neg (by omega)]
    have HSH : Hid (∀ v, Calls Tryz.prog 80 #[rdVal a o cap (nd ns n).kind (some ⟨g, 0, none⟩) a.kids.length c, .int .i64 ((row + a.offset.toNat : Nat) : Int)] v fun r w' => r = .returned (.int .i64 ((runAt a.data (row + a.offset.toNat) (kidAt a 0).length.toNat 0 : Nat) : Int)) ∧ Below v.heap.size v w') := fun v => rrun a o cap _ _ _ c _ hd hdd hlt ⟨(kidAt a 0).length.toNat - 1, by omega, hr3⟩ v
    have HM1 : Hid (∀ v, Below w1.heap.size w1 v → Calls Tryz.prog 47 #[rdVal (kidAt a 0) ok ck (nd ns n).kind rk (kidAt a 0).kids.length cc, .int .i64 ((runAt a.data (row + a.offset.toNat) (kidAt a 0).length.toNat 0 : Nat) : Int)] v fun e w' => e = .returned (.string (mk (rowF ns f n (kidAt a 0) (runAt a.data (row + a.offset.toNat) (kidAt a 0).length.toNat 0)))) ∧ Below v.heap.size v w') := fun v hv => HMM.out v _ (bel2 B1.out hv) hlt
    have q1 : (a.layout == 1) = false := by rw [beq_eq_false_iff_ne]; omega
    have q2 : (a.layout == 2) = true := by rw [beq_iff_eq]; exact hL2
    have HK1 : Hid (a.kids.length = 1) := hk1
    clear HMM HRW hlt hL hL2 hdd hd hT hT' hcell hcell1 hkh hkN hkf hkl hC hf hm hw hH hw0 hH0 hr1 hr2 hr3 ih
    rw [hk1] at HSH
    have k0 := RK.k0
    have k1 := RK.k1
    have k2 := RK.k2
    have k3 := RK.k3
    have k4 := RK.k4
    have k5 := RK.k5
    have k6 := RK.k6
    have k7 := RK.k7
    have k8 := RK.k8
    simp only [Nat.zero_add] at k1 k2 k3 k4 k5 k6 k7 k8
    have e0 : ∀ s : BW w1, s.w.cell? ⟨w.heap.size, 0, none⟩ = some (.int .i64 a.layout) := fun s => (X1.out.later s.ok).c0
    have e1' : ∀ s : BW w1, s.w.cell? ⟨w.heap.size, 1, none⟩ = some (.int .i64 a.offset) := fun s => (X1.out.later s.ok).c1
    have e2 : ∀ s : BW w1, s.w.cell? ⟨w.heap.size, 2, none⟩ = some (.int .i64 a.length) := fun s => (X1.out.later s.ok).c2
    have e3 : ∀ s : BW w1, s.w.cell? ⟨w.heap.size, 3, none⟩ = some (.string a.valid) := fun s => (X1.out.later s.ok).c3
    have e4 : ∀ s : BW w1, s.w.cell? ⟨w.heap.size, 4, none⟩ = some (.string a.ends) := fun s => (X1.out.later s.ok).c4
    have e5 : ∀ s : BW w1, s.w.cell? ⟨w.heap.size, 5, none⟩ = some (.string a.data) := fun s => (X1.out.later s.ok).c5
    have e6 : ∀ s : BW w1, s.w.cell? ⟨w.heap.size, 6, none⟩ = some (.slice o a.kids.length cap) := fun s => (X1.out.later s.ok).c6
    have e7 : ∀ s : BW w1, s.w.cell? ⟨w.heap.size, 7, none⟩ = some (.int .i64 (nd ns n).kind) := fun s => (X1.out.later s.ok).c7
    have e8 : ∀ s : BW w1, s.w.cell? ⟨w.heap.size, 8, none⟩ = some (.slice (some ⟨g, 0, none⟩) 1 c) := fun s => by
      have := (X1.out.later s.ok).c8
      rw [HK1.out] at this
      exact this
    clear hk1
    have hne := BW.some w1
    generalize rowF ns (f + 1) n a row = V at *
    generalize rowF ns f n (kidAt a 0) (runAt a.data (row + a.offset.toNat) (kidAt a 0).length.toNat 0) = U at *
    generalize runAt a.data (row + a.offset.toNat) (kidAt a 0).length.toNat 0 = E at *
    generalize kidAt a 0 = kk at *
    generalize hPP : row + a.offset.toNat = P at *
    clear hPP RK s1 b1 x1
    unfold rdVal at HM1 HSH ⊢
    have d0 := X1.out.c0
    have d1 := X1.out.c1
    have d2 := X1.out.c2
    have d3 := X1.out.c3
    have d4 := X1.out.c4
    have d5 := X1.out.c5
    have d6 := X1.out.c6
    have d7 := X1.out.c7
    have d8 := X1.out.c8
    go_enter Tryz.func47, Tryz.ntmps47
    go_wp2_with fail
    refine (HTH.out w1).mono ?_
    rintro e wx ⟨rfl, hv⟩
    subst wx
    go_wp2_with fail
    refine region_in (C := fun w' => ∃ s : BW w1, w' = s.w) (by kernel_rfl) (by kernel_rfl) ⟨⟨w1.drew, (Below.refl _ _).drew⟩, rfl⟩ ?_
    repeat (go_big_quiet_step (first
      | (go_at_call 80; rename_i s; refine (HSH.out s.w).mono ?_; rintro e wx ⟨rfl, hbx⟩; exact ⟨rfl, ⟨wx, bel2 s.ok hbx⟩, rfl⟩)
      | (go_at_call 47; rename_i s; refine (HM1.out s.w s.ok).mono ?_; rintro e wx ⟨rfl, hbx⟩; exact ⟨rfl, ⟨wx, bel2 s.ok hbx⟩, rfl⟩)))
    refine wpQuiet_nil ?_
    intro _ hw'
    obtain ⟨s, hw''⟩ := hw'
    subst hw''
    have HE : Hid (Below w.heap.size w s.w) := bel2 B1.out s.ok
    clear hne e0 e1' e2 e3 e4 e5 e6 e7 e8 k0 k1 k2 k3 k4 k5 k6 k7 k8
    go_wp2
    go_ret
    exact ⟨ret_str (by rw [HV.out]), HE.out⟩
theorem readA : ∀ f, ReadC f := by
  intro f
  induction f with
  | zero => intro ns n a o cap r c row w _ _ hf; cases hf
  | succ f ih => exact read_step f ih
end Go.Proofs.YtcpfhfdgfcilaaaGreatDoor.Arr
