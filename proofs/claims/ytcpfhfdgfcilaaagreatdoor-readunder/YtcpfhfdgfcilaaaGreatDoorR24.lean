/-
  Several texts in one: Value, Values, by the program; Value by the document: contracts. · Awake, as the laws of reading ask it: its contract. · The heap that the start leaves meets the rows' list of variables.
-/
import Derived.Test.YtcpfhfdgfcilaaaGreatDoorR23
import Derived.Test.YtcpfhfdgfcilaaaGreatDoorR15
import Derived.Test.YtcpfhfdgfcilaaaGreatDoorR09
import Derived.Test.YtcpfhfdgfcilaaaGreatDoorR11
import Derived.Test.YtcpfhfdgfcilaaaGreatDoorR02
import Derived.Test.YtcpfhfdgfcilaaaGreatDoorR12
set_option linter.unusedVariables false
set_option linter.unusedSimpArgs false
namespace Go.Proofs.YtcpfhfdgfcilaaaGreatDoor.Arr
open Go.ChangeShapes Go.WideShapes Go.ChangeAt Go.RowKit
open Tree Val

/-- What Value answers: the text, the error's number. -/
abbrev rowIn (a : Arr) (row : Int) : Prop := 0 ≤ row ∧ row < a.length
def val1 (ns : List Nd) (at' : Int) (f : Nat) (a : Arr) (row : Int) : ByteArray := if mayZ ns at' f a = true ∧ rowIn a row then mk (rowF ns f at'.toNat a row.toNat) else ⟨#[]⟩
def val1E (ns : List Nd) (at' : Int) (f : Nat) (a : Arr) (row : Int) : Int := if mayZ ns at' f a = true ∧ rowIn a row then 0 else 900
set_option maxRecDepth 20000 in
set_option maxHeartbeats 3200000 in
theorem valueP (B f : Nat) (ns : List Nd) (oT : Option Addr) (capT : Nat) (at' : Int) (a : Arr) (o : Option Addr) (cap : Nat) (row : Int) (hrw : (Lit.int .i64 row).wf = true) (w : World) (hw : Hid (Home w)) (ht : IsT w oT ns) (hH : Hid (HoldsF B 96 w (f + 1) (a.cells o cap) a)) :
    Calls Tryz.prog 43 #[.agg #[.slice oT ns.length capT], .int .i64 at', a.val o cap, .int .i64 row] w fun r w' => r = .returned (.tuple #[.string (val1 ns at' (f + 1) a row), .int .i64 (val1E ns at' (f + 1) a row)]) ∧ Below w.heap.size w w' := by
  obtain ⟨w1, e1, s1, c1, b1⟩ := boxed w (.slice oT ns.length capT) 24
  obtain ⟨w2, e2, x2, b2, z2⟩ := box7 w1 a o cap
  have B2 : Hid (Below w.heap.size w w2) := bel2 b1 b2
  have HCT : Hid (w2.cell? ⟨w.heap.size, 0, none⟩ = some (.slice oT ns.length capT)) := cell_later b2 c1
  have X2 : Hid (Bx w2 w1.heap.size a o cap) := x2
  have HT : Hid (IsT w oT ns) := ht
  have HH : Hid (HoldsF B 96 w (f + 1) (a.cells o cap) a) := hH.out
  have HZ : Hid (mayZ ns at' (f + 1) a = true → ∃ n : Nat, at' = (n : Int) ∧ n < ns.length ∧ may ns = true ∧ mayF ns (f + 1) n a = true ∧ Head ns n a) := may_head
  have HM : Hid (∀ v, Below w.heap.size w v → Calls Tryz.prog 44 #[.agg #[.slice oT ns.length capT], .int .i64 at', a.val o cap] v fun r w' => r = .returned (.bool (mayZ ns at' (f + 1) a)) ∧ Below v.heap.size v w') := fun v hv => mayA B 96 (f + 1) ns oT capT at' a o cap v (ht.later hv) (hH.out.later hv)
  have HVA : Hid (val1 ns at' (f + 1) a row = if mayZ ns at' (f + 1) a = true ∧ rowIn a row then mk (rowF ns (f + 1) at'.toNat a row.toNat) else ⟨#[]⟩) := rfl
  have HVE : Hid (val1E ns at' (f + 1) a row = if mayZ ns at' (f + 1) a = true ∧ rowIn a row then 0 else 900) := rfl
  generalize val1 ns at' (f + 1) a row = V at *
  generalize val1E ns at' (f + 1) a row = E at *
  generalize mayZ ns at' (f + 1) a = M at *
  have hbr := bounds_i64 hrw
  have cT := HCT.out
  have d0 := X2.out.c0
  have d1 := X2.out.c1
  have d2 := X2.out.c2
  have d3 := X2.out.c3
  have d4 := X2.out.c4
  have d5 := X2.out.c5
  have d6 := X2.out.c6
  unfold Arr.val at HM ⊢
  clear s1 c1 b1 b2 x2 z2 ht
  by_cases r1 : row < 0
  · have HNV : Hid (V = ⟨#[]⟩ ∧ E = 900) := ⟨HVA.out.trans (if_neg (fun h => by have := h.2.1; omega)), HVE.out.trans (if_neg (fun h => by have := h.2.1; omega))⟩
    have g1 : decide (row < 0) = true := decide_eq_true r1
    go_enter Tryz.func43, Tryz.ntmps43
    go_wp2_with fail
    go_ret2
    exact ⟨by rw [HNV.out.1, HNV.out.2]; rfl, B2.out⟩
  have g1 : decide (row < 0) = false := decide_eq_false r1
  by_cases r2 : a.length ≤ row
  · have HNV : Hid (V = ⟨#[]⟩ ∧ E = 900) := ⟨HVA.out.trans (if_neg (fun h => by have := h.2.2; omega)), HVE.out.trans (if_neg (fun h => by have := h.2.2; omega))⟩
    have g2 : decide (a.length ≤ row) = true := decide_eq_true r2
    go_enter Tryz.func43, Tryz.ntmps43
    go_wp2_with fail
    go_ret2
    exact ⟨by rw [HNV.out.1, HNV.out.2]; rfl, B2.out⟩
  have g2 : decide (a.length ≤ row) = false := decide_eq_false r2
  go_enter Tryz.func43, Tryz.ntmps43
  go_wp2_with fail
  refine (HM.out w2 B2.out).mono ?_
  rintro e w3 ⟨rfl, b3⟩
  have B3 : Hid (Below w.heap.size w w3) := bel2 B2.out b3
  have X3 : Hid (Bx w3 w1.heap.size a o cap) := X2.out.later b3
  have HC3 : Hid (w3.cell? ⟨w.heap.size, 0, none⟩ = some (.slice oT ns.length capT)) := cell_later b3 HCT.out
  clear b3 e1 e2 cT d0 d1 d2 d3 d4 d5 d6
  cases M
  · have HNV : Hid (V = ⟨#[]⟩ ∧ E = 900) := ⟨HVA.out.trans (if_neg (fun h => by cases h.1)), HVE.out.trans (if_neg (fun h => by cases h.1))⟩
    go_wp2
    go_ret2
    exact ⟨by rw [HNV.out.1, HNV.out.2]; rfl, B3.out⟩
  obtain ⟨n, rfl, hn, hm, hF, hHd⟩ := HZ.out rfl
  obtain ⟨row, rfl⟩ := Int.eq_ofNat_of_zero_le (show 0 ≤ row by omega)
  have HNV : Hid (V = mk (rowF ns (f + 1) n a row) ∧ E = 0) := ⟨HVA.out.trans (if_pos ⟨rfl, by omega, by omega⟩), HVE.out.trans (if_pos ⟨rfl, by omega, by omega⟩)⟩
  have HRO : Hid (Calls Tryz.prog 46 #[.agg #[.slice oT ns.length capT], .int .i64 (n : Int), a.val o cap] w3 fun e w' => ∃ r c, e = .returned (rdVal a o cap (nd ns n).kind r a.kids.length c) ∧ HoldsRo w' ns (f + 1) n (fun b => w3.heap.size ≤ b) (rdCells a o cap (nd ns n).kind r a.kids.length c) a ∧ Below w3.heap.size w3 w') := readOf B (f + 1) ns oT capT n a o cap w3 hn hm hF (HT.out.later B3.out) (HH.out.later B3.out)
  have HVL : Hid (∀ v r c, Below w.heap.size w v → HoldsRd v ns (f + 1) n (rdCells a o cap (nd ns n).kind r a.kids.length c) a → Calls Tryz.prog 47 #[rdVal a o cap (nd ns n).kind r a.kids.length c, .int .i64 (row : Int)] v fun e w' => e = .returned (.string (mk (rowF ns (f + 1) n a row))) ∧ Below v.heap.size v w') := fun v r c hv h => readA (f + 1) ns n a o cap r c row v hn hm hF (by omega) (hw.out.later hv) h
  have c3 := HC3.out
  have d0 := X3.out.c0
  have d1 := X3.out.c1
  have d2 := X3.out.c2
  have d3 := X3.out.c3
  have d4 := X3.out.c4
  have d5 := X3.out.c5
  have d6 := X3.out.c6
  generalize rowF ns (f + 1) n a row = U at *
  clear hF hm hHd HVA HVE HM HZ
  unfold Arr.val at HRO
  go_wp2_with fail
  refine HRO.out.mono ?_
  rintro e w4 ⟨r, c, rfl, hro, b4⟩
  have B4 : Hid (Below w.heap.size w w4) := bel2 B3.out b4
  have HV4 : Hid (Calls Tryz.prog 47 #[rdVal a o cap (nd ns n).kind r a.kids.length c, .int .i64 (row : Int)] w4 fun e w' => e = .returned (.string (mk U)) ∧ Below w4.heap.size w4 w') := HVL.out w4 r c B4.out hro.holds
  clear hro b4 c3 d0 d1 d2 d3 d4 d5 d6
  unfold rdVal at HV4 ⊢
  go_wp2_with fail
  refine HV4.out.mono ?_
  rintro e w5 ⟨rfl, b5⟩
  have B5 : Hid (Below w.heap.size w w5) := bel2 B4.out b5
  clear b5
  go_wp2
  go_ret2
  exact ⟨by rw [HNV.out.1, HNV.out.2]; rfl, B5.out⟩
theorem own_base {w : World} {b b' e k n : Nat} {v : Value} {xs : List Value} (h : w.ownsRow b e k v n xs) (hb : b' ≤ b) : w.ownsRow b' e k v n xs := by
  refine ⟨h.1, h.2.imp id ?_⟩
  rintro ⟨g, cap, cur, e1, e2, e3, e4⟩
  exact ⟨g, cap, cur, e1, Nat.le_trans hb e2, e3, e4⟩
set_option maxRecDepth 20000 in
set_option maxHeartbeats 3200000 in
theorem valuesP (B f : Nat) (ns : List Nd) (oT : Option Addr) (capT : Nat) (at' : Int) (a : Arr) (o : Option Addr) (cap : Nat) (w : World) (hw : Hid (Home w)) (ht : IsT w oT ns) (hH : Hid (HoldsF B 96 w (f + 1) (a.cells o cap) a)) :
    Calls Tryz.prog 17 #[.agg #[.slice oT ns.length capT], .int .i64 at', a.val o cap] w fun r w' => ∃ ov cv, r = .returned (.tuple #[.slice ov (valsA ns at' (f + 1) a).length cv, .int .i64 (valsE ns at' (f + 1) a)]) ∧ w'.ownsRow w.heap.size 9 1 (.slice ov (valsA ns at' (f + 1) a).length cv) (valsA ns at' (f + 1) a).length (Texts.cellsT (valsA ns at' (f + 1) a)) ∧ Below w.heap.size w w' := by
  obtain ⟨w1, e1, s1, c1, b1⟩ := boxed w (.slice oT ns.length capT) 24
  obtain ⟨w2, e2, x2, b2, z2⟩ := box7 w1 a o cap
  have B2 : Hid (Below w.heap.size w w2) := bel2 b1 b2
  have HCT : Hid (w2.cell? ⟨w.heap.size, 0, none⟩ = some (.slice oT ns.length capT)) := cell_later b2 c1
  have X2 : Hid (Bx w2 w1.heap.size a o cap) := x2
  have HT : Hid (IsT w oT ns) := ht
  have HH : Hid (HoldsF B 96 w (f + 1) (a.cells o cap) a) := hH.out
  have HZ : Hid (mayZ ns at' (f + 1) a = true → ∃ n : Nat, at' = (n : Int) ∧ n < ns.length ∧ may ns = true ∧ mayF ns (f + 1) n a = true ∧ Head ns n a) := may_head
  have HM : Hid (∀ v, Below w.heap.size w v → Calls Tryz.prog 44 #[.agg #[.slice oT ns.length capT], .int .i64 at', a.val o cap] v fun r w' => r = .returned (.bool (mayZ ns at' (f + 1) a)) ∧ Below v.heap.size v w') := fun v hv => mayA B 96 (f + 1) ns oT capT at' a o cap v (ht.later hv) (hH.out.later hv)
  have HVA : Hid (valsA ns at' (f + 1) a = if mayZ ns at' (f + 1) a = true then told (rowF ns (f + 1) at'.toNat a) a.length.toNat else []) := rfl
  have HVE : Hid (valsE ns at' (f + 1) a = if mayZ ns at' (f + 1) a = true then 0 else 900) := rfl
  generalize valsA ns at' (f + 1) a = V at *
  generalize valsE ns at' (f + 1) a = E at *
  generalize mayZ ns at' (f + 1) a = M at *
  have cT := HCT.out
  have d0 := X2.out.c0
  have d1 := X2.out.c1
  have d2 := X2.out.c2
  have d3 := X2.out.c3
  have d4 := X2.out.c4
  have d5 := X2.out.c5
  have d6 := X2.out.c6
  unfold Arr.val at HM ⊢
  clear s1 c1 b1 b2 x2 z2 ht
  go_enter Tryz.func17, Tryz.ntmps17
  go_wp2_with fail
  refine (HM.out w2 B2.out).mono ?_
  rintro e w3 ⟨rfl, b3⟩
  have B3 : Hid (Below w.heap.size w w3) := bel2 B2.out b3
  have X3 : Hid (Bx w3 w1.heap.size a o cap) := X2.out.later b3
  have HC3 : Hid (w3.cell? ⟨w.heap.size, 0, none⟩ = some (.slice oT ns.length capT)) := cell_later b3 HCT.out
  clear b3 e1 e2 cT d0 d1 d2 d3 d4 d5 d6
  cases M
  · have HNV : Hid (V = [] ∧ E = 900) := ⟨HVA.out.trans (if_neg (by simp)), HVE.out.trans (if_neg (by simp))⟩
    go_wp2
    go_ret2
    exact ⟨none, 0, by rw [HNV.out.1, HNV.out.2]; rfl, by rw [HNV.out.1]; exact World.ownsRow_nil _ _ _ _, B3.out⟩
  obtain ⟨n, rfl, hn, hm, hF, hHd⟩ := HZ.out rfl
  have hlen := hHd.len
  have hoff := hHd.off
  have hrows := hHd.rows
  obtain ⟨L, hL⟩ : ∃ L : Nat, a.length = (L : Int) := ⟨a.length.toNat, by omega⟩
  have HNV : Hid (V = told (rowF ns (f + 1) n a) L ∧ E = 0) := ⟨HVA.out.trans ((if_pos rfl).trans (by rw [hL]; rfl)), HVE.out.trans (if_pos rfl)⟩
  have HRO : Hid (∀ v, Below w.heap.size w v → Calls Tryz.prog 46 #[.agg #[.slice oT ns.length capT], .int .i64 (n : Int), a.val o cap] v fun e w' => ∃ r c, e = .returned (rdVal a o cap (nd ns n).kind r a.kids.length c) ∧ HoldsRo w' ns (f + 1) n (fun b => v.heap.size ≤ b) (rdCells a o cap (nd ns n).kind r a.kids.length c) a ∧ Below v.heap.size v w') := fun v hv => readOf B (f + 1) ns oT capT n a o cap v hn hm hF (HT.out.later hv) (HH.out.later hv)
  have HVL : Hid (∀ v (row : Nat) r c, Below w.heap.size w v → row < L → HoldsRd v ns (f + 1) n (rdCells a o cap (nd ns n).kind r a.kids.length c) a → Calls Tryz.prog 47 #[rdVal a o cap (nd ns n).kind r a.kids.length c, .int .i64 (row : Int)] v fun e w' => e = .returned (.string (mk (rowF ns (f + 1) n a row))) ∧ Below v.heap.size v w') := fun v row r c hv hr h => readA (f + 1) ns n a o cap r c row v hn hm hF (by omega) (hw.out.later hv) h
  have HL64 : Hid (L ≤ 64) := by unfold Hid; omega
  have HLL : Hid (a.length = (L : Int)) := hL
  have KLA : Hid (∀ v, Below w3.heap.size w3 v → v.cell? ⟨w.heap.size, 0, none⟩ = some (.slice oT ns.length capT) ∧ v.cell? ⟨w1.heap.size, 0, none⟩ = some (.int .i64 a.layout) ∧ v.cell? ⟨w1.heap.size, 1, none⟩ = some (.int .i64 a.offset) ∧ v.cell? ⟨w1.heap.size, 2, none⟩ = some (.int .i64 a.length) ∧ v.cell? ⟨w1.heap.size, 3, none⟩ = some (.string a.valid) ∧ v.cell? ⟨w1.heap.size, 4, none⟩ = some (.string a.ends) ∧ v.cell? ⟨w1.heap.size, 5, none⟩ = some (.string a.data) ∧ v.cell? ⟨w1.heap.size, 6, none⟩ = some (.slice o a.kids.length cap)) := fun v hv => by
    have Y := X3.out.later hv
    exact ⟨cell_later hv HC3.out, Y.c0, Y.c1, Y.c2, Y.c3, Y.c4, Y.c5, Y.c6⟩
  have KR : Hid (w3.drew.cell? ⟨w.heap.size, 0, none⟩ = some (.slice oT ns.length capT) ∧ w3.drew.cell? ⟨w1.heap.size, 0, none⟩ = some (.int .i64 a.layout) ∧ w3.drew.cell? ⟨w1.heap.size, 1, none⟩ = some (.int .i64 a.offset) ∧ w3.drew.cell? ⟨w1.heap.size, 2, none⟩ = some (.int .i64 a.length) ∧ w3.drew.cell? ⟨w1.heap.size, 3, none⟩ = some (.string a.valid) ∧ w3.drew.cell? ⟨w1.heap.size, 4, none⟩ = some (.string a.ends) ∧ w3.drew.cell? ⟨w1.heap.size, 5, none⟩ = some (.string a.data) ∧ w3.drew.cell? ⟨w1.heap.size, 6, none⟩ = some (.slice o a.kids.length cap)) := KLA.out _ (drewN_below w3 1)
  generalize rowF ns (f + 1) n a = G at *
  clear hF hm hHd HVA HVE HM HZ hL hlen hoff hrows
  unfold Arr.val at HRO
  go_wp2_with fail
  refine wp_region_noPanic ?_
  refine wp_region_held_drew (S := fun W : World => W.cell? ⟨w.heap.size, 0, none⟩ = some (.slice oT ns.length capT) ∧ W.cell? ⟨w1.heap.size, 0, none⟩ = some (.int .i64 a.layout) ∧ W.cell? ⟨w1.heap.size, 1, none⟩ = some (.int .i64 a.offset) ∧ W.cell? ⟨w1.heap.size, 2, none⟩ = some (.int .i64 a.length) ∧ W.cell? ⟨w1.heap.size, 3, none⟩ = some (.string a.valid) ∧ W.cell? ⟨w1.heap.size, 4, none⟩ = some (.string a.ends) ∧ W.cell? ⟨w1.heap.size, 5, none⟩ = some (.string a.data) ∧ W.cell? ⟨w1.heap.size, 6, none⟩ = some (.slice o a.kids.length cap)) (by kernel_rfl) KR.out (fun h0 => ?_)
  have D0 : Hid (Below w3.heap.size w3 w3.drew) := drewN_below w3 1
  generalize w3.drew = v0 at *
  refine take_at (i := 0) (d := some 13) (v := ?v0a) rfl rfl (by kernel_rfl) (by kernel_rfl) (by kernel_rfl) (fun _ _ _ h => h) (Or.inl ⟨by rfl, ?y0a⟩) h0 ?r0a
  case y0a => (intro w' hSw; (try dsimp only at hSw); go_simp; try with_reducible rfl)
  try simp only [Act.put, List.setIfInBounds_toArray, List.set_cons_zero, List.set_cons_succ]
  refine take_at (i := 1) (d := some 14) (v := ?v1a) rfl rfl (by kernel_rfl) (by kernel_rfl) (by kernel_rfl) (fun _ _ _ h => h) (Or.inl ⟨by rfl, ?y1a⟩) h0 ?r1a
  case y1a => (intro w' hSw; (try dsimp only at hSw); go_simp; try with_reducible rfl)
  try simp only [Act.put, List.setIfInBounds_toArray, List.set_cons_zero, List.set_cons_succ]
  refine take_at (i := 2) (d := some 15) (v := ?v2a) rfl rfl (by kernel_rfl) (by kernel_rfl) (by kernel_rfl) (fun _ _ _ h => h) (Or.inl ⟨by rfl, ?y2a⟩) h0 ?r2a
  case y2a => (intro w' hSw; (try dsimp only at hSw); go_simp; try with_reducible rfl)
  try simp only [Act.put, List.setIfInBounds_toArray, List.set_cons_zero, List.set_cons_succ]
  refine take_at (i := 3) (d := some 16) (v := ?v3a) rfl rfl (by kernel_rfl) (by kernel_rfl) (by kernel_rfl) (fun _ _ _ h => h) (Or.inl ⟨by rfl, ?y3a⟩) h0 ?r3a
  case y3a => (intro w' hSw; (try dsimp only at hSw); go_simp; try with_reducible rfl)
  try simp only [Act.put, List.setIfInBounds_toArray, List.set_cons_zero, List.set_cons_succ]
  refine take_at (i := 4) (d := some 17) (v := ?v4a) rfl rfl (by kernel_rfl) (by kernel_rfl) (by kernel_rfl) (fun _ _ _ h => h) (Or.inl ⟨by rfl, ?y4a⟩) h0 ?r4a
  case y4a => (intro w' hSw; (try dsimp only at hSw); go_simp; try with_reducible rfl)
  try simp only [Act.put, List.setIfInBounds_toArray, List.set_cons_zero, List.set_cons_succ]
  refine wpAnyH_ready (rs := [5]) (by kernel_rfl) (by simp) ?_
  refine AllReadyH.cons rfl (fun K hK => ?_) AllReadyH.nil
  go_simp
  go_at_call 46
  refine (HRO.out v0 (bel2 B3.out D0.out)).mono ?_
  rintro e v1 ⟨r, c, rfl, hro, bb⟩
  have HR1 : Hid (HoldsRd v1 ns (f + 1) n (rdCells a o cap (nd ns n).kind r a.kids.length c) a) := hro.holds
  have D1 : Hid (Below w3.heap.size w3 v1) := bel2 D0.out bb
  clear hro bb
  refine hK.out _ _ (KLA.out v1 D1.out) (fun h1 => ?_)
  clear hK K
  try simp only [Act.put, List.setIfInBounds_toArray, List.set_cons_zero, List.set_cons_succ]
  refine take_at (i := 6) (d := some 19) (v := ?v6b) rfl rfl (by kernel_rfl) (by kernel_rfl) (by kernel_rfl) (fun _ _ _ h => h) (Or.inl ⟨by rfl, ?y6b⟩) h1 ?r6b
  case y6b => (intro w' hSw; (try dsimp only at hSw); go_simp; try with_reducible rfl)
  try simp only [Act.put, List.setIfInBounds_toArray, List.set_cons_zero, List.set_cons_succ]
  rw [HLL.out]
  refine wpAnyH_ready (rs := [7]) (by kernel_rfl) (by simp) ?_
  refine AllReadyH.cons rfl (fun K hK => ?_) AllReadyH.nil
  go_simp
  have HGA := gather39 L HL64.out (rdVal a o cap (nd ns n).kind r a.kids.length c) G v1 (fun k v hk hv => HVL.out v k r c (bel2 B3.out (bel2 D1.out hv)) hk (HR1.out.later hv))
  unfold rdVal at HGA ⊢
  go_at_call 45
  refine HGA.mono ?_
  rintro e v2 ⟨ov, cv, rfl, hown, bb⟩
  have HOW : Hid (v2.ownsRow v1.heap.size 9 1 (.slice ov L cv) L (Texts.cellsT (told G L))) := hown
  have D2 : Hid (Below w3.heap.size w3 v2) := bel2 D1.out bb
  clear hown bb HGA
  refine hK.out _ _ (by rw [← HLL.out]; exact KLA.out v2 D2.out) (fun h2 => ?_)
  clear hK K
  try simp only [Act.put, List.setIfInBounds_toArray, List.set_cons_zero, List.set_cons_succ]
  refine take_at (i := 8) (d := some 6) (v := ?v8c) rfl rfl (by kernel_rfl) (by kernel_rfl) (by kernel_rfl) (fun _ _ _ h => h) (Or.inl ⟨by rfl, ?y8c⟩) h2 ?r8c
  case y8c => (intro w' hSw; (try dsimp only at hSw); go_simp; try with_reducible rfl)
  try simp only [Act.put, List.setIfInBounds_toArray, List.set_cons_zero, List.set_cons_succ]
  refine take_at (i := 9) (d := some 7) (v := ?v9c) rfl rfl (by kernel_rfl) (by kernel_rfl) (by kernel_rfl) (fun _ _ _ h => h) (Or.inl ⟨by rfl, ?y9c⟩) h2 ?r9c
  case y9c => (intro w' hSw; (try dsimp only at hSw); go_simp; try with_reducible rfl)
  try simp only [Act.put, List.setIfInBounds_toArray, List.set_cons_zero, List.set_cons_succ]
  refine wpAnyH_done (by kernel_rfl) ?_ _
  refine NoPanic.normal ?_
  go_wp2
  go_ret2
  refine ⟨ov, cv, ?_, ?_, bel2 B3.out D2.out⟩
  · rw [HNV.out.1, HNV.out.2, length_told]
    rfl
  · rw [HNV.out.1, length_told]
    exact own_base HOW.out (Nat.le_trans B3.out.size D1.out.size)
end Go.Proofs.YtcpfhfdgfcilaaaGreatDoor.Arr
set_option linter.unusedVariables false
set_option linter.unusedSimpArgs false
namespace Go.Proofs.YtcpfhfdgfcilaaaGreatDoor.Arr
open Go.ChangeShapes Go.WideShapes Go.ChangeAt Go.RowKit
open Tree Val

/-- Texts that are laid out at once. -/
theorem tx_lit (w : World) (ss : List ByteArray) (h : ss.length ≤ maxLen) : ∃ w1, w.alloc (.cells (Texts.cellsT ss).toArray 9) = w1 ∧ Texts.IsTx w1 (some ⟨w.heap.size, 0, none⟩) ss ∧ Below w.heap.size w w1 := by
  refine ⟨_, rfl, ⟨h, .inr ⟨_, rfl, fun i hi => ?_⟩⟩, (Below.refl _ _).alloc (Nat.le_refl _) _⟩
  have := Texts.cellsT_at ss i hi
  rw [add0]
  simp only [World.cell?, heap_alloc_new]
  rw [List.getElem?_toArray, this]
  rfl
def rwT : List Nd := [⟨3, -1, true⟩, ⟨1, 0, false⟩]
def rwK : Arr := ⟨0, 0, 3, ⟨#[]⟩, ⟨#[]⟩, ⟨#[5]⟩, []⟩
def rwE : ByteArray := ⟨#[0, 0, 0, 0, 1, 0, 0, 0, 3, 0, 0, 0, 3, 0, 0, 0]⟩
def rwA : Arr := ⟨0, 1, 2, ⟨#[2]⟩, rwE, ⟨#[]⟩, [rwK]⟩
def rwV : List ByteArray := [⟨#[91, 102, 116, 93]⟩, ⟨#[110]⟩]
theorem rwV_is : valsA rwT 0 2 rwA = rwV := by kernel_rfl
theorem rwV_no : valsE rwT 0 2 rwA = 0 := by decide +kernel
theorem rw0_is : val1 rwT 0 2 rwA 0 = ⟨#[91, 102, 116, 93]⟩ := by kernel_rfl
theorem rw0_no : val1E rwT 0 2 rwA 0 = 0 := by decide +kernel
theorem rw2_is : val1 rwT 0 2 rwA 2 = ⟨#[]⟩ := by kernel_rfl
theorem rw2_no : val1E rwT 0 2 rwA 2 = 900 := by decide +kernel
theorem rwN_is : valsA rwT 0 1 nil = [] := by kernel_rfl
theorem rwN_no : valsE rwT 0 1 nil = 900 := by decide +kernel
theorem rwK_ok : rwK.ok 4096 := ⟨by decide, by decide, by decide, by decide +kernel, by decide +kernel, by decide +kernel⟩
theorem rwA_ok : rwA.ok 4096 := ⟨by decide, by decide, by decide, by decide +kernel, by decide +kernel, by decide +kernel⟩
theorem nil_ok' (B : Nat) : nil.ok B := ⟨rfl, rfl, rfl, Nat.zero_le _, Nat.zero_le _, Nat.zero_le _⟩
theorem holds0 {B : Nat} (a : Arr) (w : World) (hk : a.kids = []) (hok : a.ok B) : HoldsF B 96 w 1 (a.cells none 0) a :=
  ⟨none, 0, rfl, hok, by rw [hk]; exact Nat.zero_le _, by simp, Nat.zero_le _, .inl ⟨rfl, hk, rfl⟩⟩
theorem rwA_holds {w : World} {g : Nat} (h : w.heap[g]? = some (.cells #[.int .i64 0, .int .i64 0, .int .i64 3, .string ⟨#[]⟩, .string ⟨#[]⟩, .string ⟨#[5]⟩, .slice none 0 0] 27)) : HoldsF 4096 96 w 2 (rwA.cells (some ⟨g, 0, none⟩) 1) rwA := by
  refine ⟨_, _, rfl, rwA_ok, Nat.le_refl _, by decide, by decide, .inr ⟨_, rfl, fun i hi => ?_⟩⟩
  have hi : i < 1 := hi
  obtain rfl : i = 0 := by omega
  refine ⟨rwK.cells none 0, rfl, fun j hj => ?_, holds0 rwK w rfl rwK_ok⟩
  rw [add0, Nat.zero_mul, Nat.zero_add]
  simp only [World.cell?, h]
  match j, hj with
  | 0, _ => rfl
  | 1, _ => rfl
  | 2, _ => rfl
  | 3, _ => rfl
  | 4, _ => rfl
  | 5, _ => rfl
  | 6, _ => rfl
theorem rwT_lies {w : World} {g : Nat} (h : w.heap[g]? = some (.cells #[.int .i64 3, .int .i64 (-1), .bool true, .int .i64 1, .int .i64 0, .bool false] 40)) : Lies w ⟨g, 0, none⟩ rwT := by
  have hc : ∀ (j : Nat) v, (#[Value.int .i64 3, .int .i64 (-1), .bool true, .int .i64 1, .int .i64 0, .bool false] : Array Value)[j]? = some v → w.cell? ⟨g, j, none⟩ = some v := fun j v hv => by simp only [World.cell?, h]; exact hv
  constructor
  · intro i hi
    have hi : i < 2 := hi
    rw [add0]
    match i, hi with
    | 0, _ => exact hc 0 _ rfl
    | 1, _ => exact hc 3 _ rfl
  · intro i hi
    have hi : i < 2 := hi
    match i, hi with
    | 0, _ => exact hc 1 _ rfl
    | 1, _ => exact hc 4 _ rfl
  · intro i hi
    have hi : i < 2 := hi
    match i, hi with
    | 0, _ => exact hc 2 _ rfl
    | 1, _ => exact hc 5 _ rfl
set_option maxRecDepth 20000 in
set_option maxHeartbeats 3200000 in
theorem awakeR (w : World) (hw : Hid (Home w)) : Calls Tryz.prog 16 #[] w fun r w' => r = .returned (.bool true) ∧ Below w.heap.size w w' := by
  obtain ⟨w1, e1, hT1, b1⟩ : ∃ w1, w.alloc (.cells #[.int .i64 3, .int .i64 (-1), .bool true, .int .i64 1, .int .i64 0, .bool false] 40) = w1 ∧ w1.heap[w.heap.size]? = some (.cells #[.int .i64 3, .int .i64 (-1), .bool true, .int .i64 1, .int .i64 0, .bool false] 40) ∧ Below w.heap.size w w1 := ⟨_, rfl, heap_alloc_new _ _, (Below.refl _ _).alloc (Nat.le_refl _) _⟩
  obtain ⟨w2, e2, s2, c2, b2⟩ := boxed w1 (.slice none 0 0) 24
  have hf2 : w2.heap[w1.heap.size]? = some (.cells #[.slice none 0 0] 24) := by rw [← e2]; exact heap_alloc_new _ _
  have z2 : w2.frozen? ⟨w1.heap.size, 0, none⟩ = false := by simp [World.frozen?, hf2]
  obtain ⟨w3, e3⟩ : ∃ w3, w2.setCell ⟨w1.heap.size, 0, none⟩ (.slice (some ⟨w.heap.size, 0, none⟩) 2 2) = w3 := ⟨_, rfl⟩
  have b13 : Below w1.heap.size w1 w3 := by rw [← e3]; exact b2.setCell (Nat.le_refl _) _
  have HT3 : Hid (w3.cell? ⟨w1.heap.size, 0, none⟩ = some (.slice (some ⟨w.heap.size, 0, none⟩) 2 2)) := by
    have := blk_set hf2 0 (.slice (some ⟨w.heap.size, 0, none⟩) 2 2)
    rw [e3] at this
    unfold Hid
    simp [World.cell?, this]
  have B3 : Hid (Below w.heap.size w w3) := bel2 b1 b13
  have HL3 : Hid (Lies w3 ⟨w.heap.size, 0, none⟩ rwT) := (rwT_lies hT1).later b13
  obtain ⟨w4, e4, hK4, b4⟩ : ∃ w4, w3.alloc (.cells #[.int .i64 0, .int .i64 0, .int .i64 3, .string ⟨#[]⟩, .string ⟨#[]⟩, .string ⟨#[5]⟩, .slice none 0 0] 27) = w4 ∧ w4.heap[w3.heap.size]? = some (.cells #[.int .i64 0, .int .i64 0, .int .i64 3, .string ⟨#[]⟩, .string ⟨#[]⟩, .string ⟨#[5]⟩, .slice none 0 0] 27) ∧ Below w3.heap.size w3 w4 := ⟨_, rfl, heap_alloc_new _ _, (Below.refl _ _).alloc (Nat.le_refl _) _⟩
  obtain ⟨w5, e5', x5, b5, z5⟩ := box7 w4 nil none 0
  have e5 : w4.alloc (.cells #[.int .i64 0, .int .i64 0, .int .i64 0, .string ⟨#[]⟩, .string ⟨#[]⟩, .string ⟨#[]⟩, .slice none 0 0] 27) = w5 := e5'
  have m0 := x5.c0
  have m1 := x5.c1
  have m2 := x5.c2
  have m3 := x5.c3
  have m4 := x5.c4
  have m5 := x5.c5
  have m6 := x5.c6
  have f0 := x5.fz 0
  have f1 := x5.fz 1
  have f2 := x5.fz 2
  have f3 := x5.fz 3
  have f4 := x5.fz 4
  have f5 := x5.fz 5
  have f6 := x5.fz 6
  obtain ⟨w6, e6', x6, h6, b6⟩ := set7 x5 rwA (some ⟨w3.heap.size, 0, none⟩) 1
  have X6 : Hid (Bx w6 w4.heap.size rwA (some ⟨w3.heap.size, 0, none⟩) 1) := x6
  have e6 : ((((((w5.setCell ⟨w4.heap.size, 0, none⟩ (.int .i64 0)).setCell ⟨w4.heap.size, 1, none⟩ (.int .i64 1)).setCell ⟨w4.heap.size, 2, none⟩ (.int .i64 2)).setCell ⟨w4.heap.size, 3, none⟩ (.string ⟨#[2]⟩)).setCell ⟨w4.heap.size, 4, none⟩ (.string ⟨#[0, 0, 0, 0, 1, 0, 0, 0, 3, 0, 0, 0, 3, 0, 0, 0]⟩)).setCell ⟨w4.heap.size, 5, none⟩ (.string ⟨#[]⟩)).setCell ⟨w4.heap.size, 6, none⟩ (.slice (some ⟨w3.heap.size, 0, none⟩) 1 1) = w6 := e6'
  have B46 : Below w4.heap.size w4 w6 := b5.trans (b6 _ (Nat.le_refl _))
  have B36 : Hid (Below w3.heap.size w3 w6) := bel2 b4 B46
  have B6 : Hid (Below w.heap.size w w6) := bel2 B3.out B36.out
  have HA6 : Hid (HoldsF 4096 96 w6 2 (rwA.cells (some ⟨w3.heap.size, 0, none⟩) 1) rwA) := (rwA_holds hK4).later B46
  have HT6 : Hid (w6.cell? ⟨w1.heap.size, 0, none⟩ = some (.slice (some ⟨w.heap.size, 0, none⟩) 2 2)) := cell_later B36.out HT3.out
  have HI6 : Hid (IsT w6 (some ⟨w.heap.size, 0, none⟩) rwT) := ⟨by decide, .inr ⟨_, rfl, HL3.out.later B36.out⟩⟩
  have HVS : Hid (∀ v, Below w6.heap.size w6 v → Calls Tryz.prog 17 #[.agg #[.slice (some ⟨w.heap.size, 0, none⟩) 2 2], .int .i64 0, rwA.val (some ⟨w3.heap.size, 0, none⟩) 1] v fun r w' => ∃ ov cv, r = .returned (.tuple #[.slice ov 2 cv, .int .i64 0]) ∧ Texts.IsTx w' ov rwV ∧ Below v.heap.size v w') := fun v hv => by
    have := valuesP 4096 1 rwT (some ⟨w.heap.size, 0, none⟩) 2 0 rwA _ 1 v (hw.out.later (bel2 B6.out hv)) (HI6.out.later hv) (HA6.out.later hv)
    rw [rwV_is, rwV_no] at this
    refine this.mono ?_
    rintro e w' ⟨ov, cv, h1, h2, h3⟩
    exact ⟨ov, cv, h1, Texts.own_texts h2, h3⟩
  have HV1 : Hid (∀ v, Below w6.heap.size w6 v → Calls Tryz.prog 43 #[.agg #[.slice (some ⟨w.heap.size, 0, none⟩) 2 2], .int .i64 0, rwA.val (some ⟨w3.heap.size, 0, none⟩) 1, .int .i64 0] v fun r w' => r = .returned (.tuple #[.string ⟨#[91, 102, 116, 93]⟩, .int .i64 0]) ∧ Below v.heap.size v w') := fun v hv => by
    have := valueP 4096 1 rwT (some ⟨w.heap.size, 0, none⟩) 2 0 rwA _ 1 0 (by decide) v (hw.out.later (bel2 B6.out hv)) (HI6.out.later hv) (HA6.out.later hv)
    rw [rw0_is, rw0_no] at this
    exact this
  have HV2 : Hid (∀ v, Below w6.heap.size w6 v → Calls Tryz.prog 43 #[.agg #[.slice (some ⟨w.heap.size, 0, none⟩) 2 2], .int .i64 0, rwA.val (some ⟨w3.heap.size, 0, none⟩) 1, .int .i64 2] v fun r w' => r = .returned (.tuple #[.string ⟨#[]⟩, .int .i64 900]) ∧ Below v.heap.size v w') := fun v hv => by
    have := valueP 4096 1 rwT (some ⟨w.heap.size, 0, none⟩) 2 0 rwA _ 1 2 (by decide) v (hw.out.later (bel2 B6.out hv)) (HI6.out.later hv) (HA6.out.later hv)
    rw [rw2_is, rw2_no] at this
    exact this
  have HVN : Hid (∀ v, Below w6.heap.size w6 v → Calls Tryz.prog 17 #[.agg #[.slice (some ⟨w.heap.size, 0, none⟩) 2 2], .int .i64 0, .agg #[.int .i64 0, .int .i64 0, .int .i64 0, .string ⟨#[]⟩, .string ⟨#[]⟩, .string ⟨#[]⟩, .slice none 0 0]] v fun r w' => ∃ ov cv, r = .returned (.tuple #[.slice ov 0 cv, .int .i64 900]) ∧ Below v.heap.size v w') := fun v hv => by
    have := valuesP 4096 0 rwT (some ⟨w.heap.size, 0, none⟩) 2 0 nil none 0 v (hw.out.later (bel2 B6.out hv)) (HI6.out.later hv) (holds0 nil v rfl (nil_ok' _))
    rw [rwN_is, rwN_no] at this
    refine this.mono ?_
    rintro e w' ⟨ov, cv, h1, h2, h3⟩
    exact ⟨ov, cv, h1, h3⟩
  unfold nil at m0 m1 m2 m3 m4 m5 m6
  unfold Arr.val at HVS HV1 HV2
  clear hT1 b1 b2 hf2 s2 b13 hK4 b4 e5' x5 b5 z5 x6 h6 b6 B46 e6' HA6 HI6 HL3
  have e4h : Hid (w3.alloc (.cells #[.int .i64 0, .int .i64 0, .int .i64 3, .string ⟨#[]⟩, .string ⟨#[]⟩, .string ⟨#[5]⟩, .slice none 0 0] 27) = w4) := e4
  go_enter Tryz.func16, Tryz.ntmps16
  go_upto_region 2 with fail
  try rw [e3]
  clear e1 e2 e3 c2 z2
  go_upto_region 3 with fail
  try rw [e6]
  clear e4 e5 e6 e4h m0 m1 m2 m3 m4 m5 m6 f0 f1 f2 f3 f4 f5 f6
  have c6 := HT6.out
  have d0 := X6.out.c0
  have d1 := X6.out.c1
  have d2 := X6.out.c2
  have d3 := X6.out.c3
  have d4 := X6.out.c4
  have d5 := X6.out.c5
  have d6 := X6.out.c6
  generalize rwA = RA at *
  go_wp2_with fail
  refine (HVS.out w6 (Below.refl _ _)).mono ?_
  rintro e w7 ⟨ov, cv, rfl, htx, b7⟩
  have HTX : Hid (Texts.IsTx w7 ov rwV) := htx
  have B7 : Hid (Below w6.heap.size w6 w7) := b7
  clear htx b7 c6 d0 d1 d2 d3 d4 d5 d6
  have c6 := cell_later B7.out HT6.out
  have d0 := (X6.out.later B7.out).c0
  have d1 := (X6.out.later B7.out).c1
  have d2 := (X6.out.later B7.out).c2
  have d3 := (X6.out.later B7.out).c3
  have d4 := (X6.out.later B7.out).c4
  have d5 := (X6.out.later B7.out).c5
  have d6 := (X6.out.later B7.out).c6
  go_wp2_with fail
  refine (HV1.out w7 B7.out).mono ?_
  rintro e w8 ⟨rfl, b8⟩
  have B8 : Hid (Below w6.heap.size w6 w8) := bel2 B7.out b8
  have HTX8 : Hid (Texts.IsTx w8 ov rwV) := HTX.out.later b8
  clear b8 c6 d0 d1 d2 d3 d4 d5 d6
  have c6 := cell_later B8.out HT6.out
  have d0 := (X6.out.later B8.out).c0
  have d1 := (X6.out.later B8.out).c1
  have d2 := (X6.out.later B8.out).c2
  have d3 := (X6.out.later B8.out).c3
  have d4 := (X6.out.later B8.out).c4
  have d5 := (X6.out.later B8.out).c5
  have d6 := (X6.out.later B8.out).c6
  go_wp2_with fail
  refine (HV2.out w8 B8.out).mono ?_
  rintro e w9 ⟨rfl, b9⟩
  have B9 : Hid (Below w6.heap.size w6 w9) := bel2 B8.out b9
  have HTX9 : Hid (Texts.IsTx w9 ov rwV) := HTX8.out.later b9
  clear b9 c6 d0 d1 d2 d3 d4 d5 d6
  have c6 := cell_later B9.out HT6.out
  go_wp2_with fail
  refine (HVN.out w9 B9.out).mono ?_
  rintro e w10 ⟨on, cn, rfl, b10⟩
  have B10 : Hid (Below w6.heap.size w6 w10) := bel2 B9.out b10
  obtain ⟨w11, e11', ht11, b11⟩ := tx_lit w10 rwV (by decide)
  have e11 : w10.alloc (.cells #[.string ⟨#[91, 102, 116, 93]⟩, .string ⟨#[110]⟩] 9) = w11 := e11'
  have B11 : Hid (Below w6.heap.size w6 w11) := bel2 B10.out b11
  have HST : Hid (Calls Tryz.prog 22 #[.slice ov 2 cv, .slice (some ⟨w10.heap.size, 0, none⟩) 2 2] w11 fun r w' => r = .returned (.bool true) ∧ Below w11.heap.size w11 w') := Val.sameTexts ov (some ⟨w10.heap.size, 0, none⟩) cv 2 rwV (by decide) w11 (HTX9.out.later (bel2 b10 b11)) ht11
  clear b10 e11' ht11 b11 c6
  go_wp2_with fail
  refine HST.out.mono ?_
  rintro e w12 ⟨rfl, b12⟩
  have B12 : Hid (Below w6.heap.size w6 w12) := bel2 B11.out b12
  clear b12 e11
  go_wp2_with fail
  refine (Tree.num _ _).mono ?_
  rintro e wx ⟨rfl, hv⟩
  subst wx
  go_wp2_with fail
  refine (Tree.num _ _).mono ?_
  rintro e wx ⟨rfl, hv⟩
  subst wx
  go_wp2_with fail
  refine (Tree.num _ _).mono ?_
  rintro e wx ⟨rfl, hv⟩
  subst wx
  go_wp2_with fail
  refine (Tree.num _ _).mono ?_
  rintro e wx ⟨rfl, hv⟩
  subst wx
  go_wp2
  go_ret
  exact ⟨rfl, bel2 B6.out B12.out⟩
end Go.Proofs.YtcpfhfdgfcilaaaGreatDoor.Arr
namespace Go.Proofs.YtcpfhfdgfcilaaaGreatDoor.Val
open Go.ChangeShapes Go.WideShapes Go.ChangeAt Go.RowKit

/-- The heap that the start leaves meets the list. -/
theorem doorR_met (os : Os) (args : Array Value) : laidMetH Tryz.prog laidR ((World.doorLaid Tryz.prog 400 os).forCall (fun _ _ => 0) ⟨#[], args, []⟩).memory :=
  laidMetH_of_parts3 (fuel := 8) (laidMet_of_run' 8 (by kernel_rfl) (by kernel_rfl)) (by kernel_rfl) (by kernel_rfl)
end Go.Proofs.YtcpfhfdgfcilaaaGreatDoor.Val
