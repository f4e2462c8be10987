/-
  Several texts in one: A row's value, by the document: plain whole numbers, truths, bytes: contracts. · What is read of an array that may be is a value that fits its node: the whole.
-/
import Derived.Test.YtcpfhfdgfcilaaaGreatDoorB13
import Derived.Maps.AppendAt
import Derived.OneCell
import Derived.Laws.OwnMore
import Derived.WalkKit
import Derived.Test.YtcpfhfdgfcilaaaGreatDoorB01
import Derived.Test.YtcpfhfdgfcilaaaGreatDoorB02
import Derived.Test.YtcpfhfdgfcilaaaGreatDoorB03
import Derived.Test.YtcpfhfdgfcilaaaGreatDoorB04
import Derived.Test.YtcpfhfdgfcilaaaGreatDoorB12
set_option linter.unusedVariables false
set_option linter.unusedSimpArgs false
namespace Go.Proofs.YtcpfhfdgfcilaaaGreatDoor.Arr
open Go.ChangeShapes Go.WideShapes Go.ChangeAt Go.RowKit
open Tree Val

/-- What the walk over a plain row asks of whole numbers, truths and bytes. -/
theorem at_int {ns : List Nd} {n : Nat} {a : Arr} {rec : Nat → Arr → Bool} (hh : Head ns n a) (hp : plainB rec ns n a = true) (hk : (nd ns n).kind = 0) {row : Nat} (hr : (row : Int) < a.length) : 8 * (row + a.offset.toNat) + 8 ≤ a.data.size := by
  unfold plainB at hp
  rw [if_pos hk] at hp
  simp only [Bool.and_eq_true, decide_eq_true_eq] at hp
  have := hp.2
  have := hh.off
  unfold rowsOf at *
  omega
theorem at_bool {ns : List Nd} {n : Nat} {a : Arr} {rec : Nat → Arr → Bool} (hh : Head ns n a) (hp : plainB rec ns n a = true) (hk : (nd ns n).kind = 1) {row : Nat} (hr : (row : Int) < a.length) : row + a.offset.toNat < 8 * a.data.size := by
  unfold plainB at hp
  rw [if_neg (by omega), if_pos hk] at hp
  simp only [Bool.and_eq_true, decide_eq_true_eq] at hp
  have := hp.2
  have := hh.off
  unfold rowsOf at *
  omega
theorem at_bytes {ns : List Nd} {n : Nat} {a : Arr} {rec : Nat → Arr → Bool} (hh : Head ns n a) (hp : plainB rec ns n a = true) (hk : (nd ns n).kind = 2) {row : Nat} (hr : (row : Int) < a.length) : has4 a.ends (row + a.offset.toNat) = true ∧ has4 a.ends (row + a.offset.toNat + 1) = true ∧ endAt a.ends (row + a.offset.toNat) ≤ endAt a.ends (row + a.offset.toNat + 1) ∧ endAt a.ends (row + a.offset.toNat + 1) ≤ a.data.size := by
  unfold plainB at hp
  rw [if_neg (by omega), if_neg (by omega), if_pos hk] at hp
  rw [Bool.and_eq_true] at hp
  have ho := hh.off
  have hE := endsB_ends hp.2
  have h2 := hE.last (row + a.offset.toNat + 1) (by unfold rowsOf; omega)
  exact ⟨(has4_iff _ _).2 ⟨hE.size _ (by unfold rowsOf; omega), hE.most _ (by unfold rowsOf; omega)⟩, (has4_iff _ _).2 ⟨hE.size _ (by unfold rowsOf; omega), hE.most _ (by unfold rowsOf; omega)⟩, hE.mono (by omega) (by unfold rowsOf; omega), by omega⟩
set_option maxRecDepth 20000 in
set_option maxHeartbeats 3200000 in
theorem rowInt (B f : Nat) (ns : List Nd) (oT : Option Addr) (capT n : Nat) (a : Arr) (o : Option Addr) (cap row : Nat) (w : World) (hn : n < ns.length) (hm : may ns = true) (hf : mayF ns (f + 1) n a = true) (hr : (row : Int) < a.length) (ht : IsT w oT ns) (hH : Hid (HoldsF B 96 w (f + 1) (a.cells o cap) a)) (hT : there a (row + a.offset.toNat) = true) (hL0 : a.layout = 0) (hk : (nd ns n).kind = 0) :
    Calls Tryz.prog 63 #[.agg #[.slice oT ns.length capT], .int .i64 (n : Int), a.val o cap, .int .i64 (row : Int)] w fun r w' => r = .returned (.string (mk (rowF ns (f + 1) n a row))) ∧ Below w.heap.size w w' := by
  obtain ⟨w1, e1, s1, c1, b1⟩ := boxed w (.slice oT ns.length capT) 24
  obtain ⟨w2, e2, x2, b2, z2⟩ := box7 w1 a o cap
  have hC := mayF_cases hf
  have hoff := hC.1.off
  have hrows := hC.1.rows
  have hlen := hC.1.len
  have hPE : (row : Int) + a.offset = ((row + a.offset.toNat : Nat) : Int) := by omega
  have hP64 : row + a.offset.toNat ≤ 64 := by omega
  have HTH : Hid (∀ v, Calls Tryz.prog 56 #[a.val o cap, .int .i64 ((row + a.offset.toNat : Nat) : Int)] v fun e w' => e = .returned (.bool (there a (row + a.offset.toNat))) ∧ Below v.heap.size v w') := fun v => refThere a o cap _ hC.1.valid (by
    rcases hC.1.null with c | c
    · exact .inl c
    · have := c.2; unfold rowsOf at this; right; omega) v
  have B2 : Hid (Below w.heap.size w w2) := bel2 b1 b2
  have cT := cell_later b2 c1
  have HCT : Hid (w2.cell? ⟨w.heap.size, 0, none⟩ = some (.slice oT ns.length capT)) := cT
  have X2 : Hid (Bx w2 w1.heap.size a o cap) := x2
  have HT : Hid (IsT w oT ns) := ht
  have HRW := rowF_succ ns f n a row
  have hL : a.layout = 0 := hL0
  have hpl : plainB (mayF ns f) ns n a = true := by
    rcases hC.2 with c | c
    · exact c.2
    · exact absurd hL c.1
  have HKS : Hid (∀ v, Below w.heap.size w v → Calls Tryz.prog 83 #[.agg #[.slice oT ns.length capT], .int .i64 (n : Int)] v fun r w' => ∃ o c, r = .returned (.tuple #[.slice o (kids ns n).length c, .int .i64 0]) ∧ w'.ownsRow v.heap.size 3 1 (.slice o (kids ns n).length c) (kids ns n).length (ints (kids ns n)) ∧ Below v.heap.size v w') := fun v hv => by
    have hB : hasB ns (n : Int) = true := by unfold hasB; rw [hm, decide_eq_true (by omega)]; rfl
    have hKA : kidsA ns (n : Int) = kids ns n := by unfold kidsA; rw [if_pos hB]
    have := kidsR oT capT ns (n : Int) v (HT.out.later hv)
    rw [hB, hKA] at this
    exact this
  obtain ⟨x, rfl, hl⟩ := ht.some (by omega)
  have HLI : Hid (Lies w x ns) := hl
  have HKD : Hid ((nd ns n).kind = 0) := hk
  have j0 : (0 : Int) ≤ (n : Int) := Int.natCast_nonneg _
  have j1 : (n : Int) < (ns.length : Int) := by omega
  have HLY : Hid (a.layout = 0) := hL
  have HV : Hid (rowF ns (f + 1) n a row = plainRow (rowF ns f) ns n a (row + a.offset.toNat)) := by unfold Hid; rw [HRW, hT, if_neg (by simp), if_pos hL]
  have h8 := at_int hC.1 hpl hk hr
  obtain ⟨p, hp8, hpn, hsl⟩ := cut8 a.data _ h8
  have HN : Hid (∀ v, Calls Tryz.prog 86 #[.string p] v fun r w' => r = .returned (.int .i64 (signed (Plain.val (bl a.data) (8 * (row + a.offset.toNat)) 8))) ∧ w' = v) := fun v => by rw [← hpn]; exact numC p hp8 v
  have HI : Hid (∀ v, Calls Tryz.prog 24 #[.int .i64 (signed (Plain.val (bl a.data) (8 * (row + a.offset.toNat)) 8))] v fun r w' => r = .returned (.string (mk (intM (signed (Plain.val (bl a.data) (8 * (row + a.offset.toNat)) 8))))) ∧ Below v.heap.size v w') := fun v => intR _ (signed_in _ (by
    have hx := Plain.val_lt (bl a.data) (8 * (row + a.offset.toNat)) 8
    rw [show 256 ^ 8 = 18446744073709551616 from rfl] at hx
    exact hx)) v
  have HPR : Hid (plainRow (rowF ns f) ns n a (row + a.offset.toNat) = intM (signed (Plain.val (bl a.data) (8 * (row + a.offset.toNat)) 8))) := by unfold Hid plainRow; rw [if_pos hk]
  clear h8 hpn hp8
  clear hL hL0 HRW hpl hl hk
  generalize rowF ns (f + 1) n a row = V at *
  have d0 := x2.c0
  have d1 := x2.c1
  have d2 := x2.c2
  have d3 := x2.c3
  have d4 := x2.c4
  have d5 := x2.c5
  have d6 := x2.c6
  have hrow64 : row ≤ 64 := by omega
  have ho64 : a.offset ≤ 64 := by omega
  clear s1 c1 b1 b2 x2 z2 ht hf hC hH hrows hlen hr
  unfold Arr.val at HTH ⊢
  generalize there a (row + a.offset.toNat) = T at *
  generalize hPP : row + a.offset.toNat = P at *
  clear hPP
  subst hT
  go_enter Tryz.func63, Tryz.ntmps63
  go_wp2_with fail
  refine (HTH.out w2).mono ?_
  rintro e w3 ⟨rfl, b3⟩
  have B3 : Hid (Below w.heap.size w w3) := bel2 B2.out b3
  have X3 : Hid (Bx w3 w1.heap.size a o cap) := X2.out.later b3
  have HC3 : Hid (w3.cell? ⟨w.heap.size, 0, none⟩ = some (.slice (some x) ns.length capT)) := cell_later b3 HCT.out
  clear b3 e1 e2 cT d0 d1 d2 d3 d4 d5 d6
  have d0 := X3.out.c0
  rw [HLY.out] at d0
  have c3 := HC3.out
  go_wp2_with fail
  refine (HKS.out w3 B3.out).mono ?_
  rintro e w4 ⟨oK, cK, rfl, hown, b4⟩
  have B4 : Hid (Below w.heap.size w w4) := bel2 B3.out b4
  have X4 : Hid (Bx w4 w1.heap.size a o cap) := X3.out.later b4
  have HC4 : Hid (w4.cell? ⟨w.heap.size, 0, none⟩ = some (.slice (some x) ns.length capT)) := cell_later b4 HC3.out
  have HIK : Hid (IsI w4 w3.heap.size oK (kids ns n)) := own_ints hown
  have HL4 : Hid (Lies w4 x ns) := HLI.out.later B4.out
  clear d0 c3 b4 hown
  have c4 := HC4.out
  have n0 := HL4.out.kind' n hn
  rw [HKD.out] at n0
  have d5 := X4.out.c5
  generalize signed (Plain.val (bl a.data) (8 * P) 8) = z at *
  go_wp2_with fail
  refine (HN.out w4).mono ?_
  rintro e wx ⟨rfl, rfl⟩
  go_wp2_with fail
  refine (HI.out wx).mono ?_
  rintro e w5 ⟨rfl, b5⟩
  have B5 : Hid (Below w.heap.size w w5) := bel2 B4.out b5
  clear b5
  go_wp2
  go_ret
  exact ⟨ret_str (by rw [HV.out, HPR.out]), B5.out⟩
set_option maxRecDepth 20000 in
set_option maxHeartbeats 3200000 in
theorem rowBool (B f : Nat) (ns : List Nd) (oT : Option Addr) (capT n : Nat) (a : Arr) (o : Option Addr) (cap row : Nat) (w : World) (hn : n < ns.length) (hm : may ns = true) (hf : mayF ns (f + 1) n a = true) (hr : (row : Int) < a.length) (ht : IsT w oT ns) (hH : Hid (HoldsF B 96 w (f + 1) (a.cells o cap) a)) (hT : there a (row + a.offset.toNat) = true) (hL0 : a.layout = 0) (hk : (nd ns n).kind = 1) :
    Calls Tryz.prog 63 #[.agg #[.slice oT ns.length capT], .int .i64 (n : Int), a.val o cap, .int .i64 (row : Int)] w fun r w' => r = .returned (.string (mk (rowF ns (f + 1) n a row))) ∧ Below w.heap.size w w' := by
  obtain ⟨w1, e1, s1, c1, b1⟩ := boxed w (.slice oT ns.length capT) 24
  obtain ⟨w2, e2, x2, b2, z2⟩ := box7 w1 a o cap
  have hC := mayF_cases hf
  have hoff := hC.1.off
  have hrows := hC.1.rows
  have hlen := hC.1.len
  have hPE : (row : Int) + a.offset = ((row + a.offset.toNat : Nat) : Int) := by omega
  have hP64 : row + a.offset.toNat ≤ 64 := by omega
  have HTH : Hid (∀ v, Calls Tryz.prog 56 #[a.val o cap, .int .i64 ((row + a.offset.toNat : Nat) : Int)] v fun e w' => e = .returned (.bool (there a (row + a.offset.toNat))) ∧ Below v.heap.size v w') := fun v => refThere a o cap _ hC.1.valid (by
    rcases hC.1.null with c | c
    · exact .inl c
    · have := c.2; unfold rowsOf at this; right; omega) v
  have B2 : Hid (Below w.heap.size w w2) := bel2 b1 b2
  have cT := cell_later b2 c1
  have HCT : Hid (w2.cell? ⟨w.heap.size, 0, none⟩ = some (.slice oT ns.length capT)) := cT
  have X2 : Hid (Bx w2 w1.heap.size a o cap) := x2
  have HT : Hid (IsT w oT ns) := ht
  have HRW := rowF_succ ns f n a row
  have hL : a.layout = 0 := hL0
  have hpl : plainB (mayF ns f) ns n a = true := by
    rcases hC.2 with c | c
    · exact c.2
    · exact absurd hL c.1
  have HKS : Hid (∀ v, Below w.heap.size w v → Calls Tryz.prog 83 #[.agg #[.slice oT ns.length capT], .int .i64 (n : Int)] v fun r w' => ∃ o c, r = .returned (.tuple #[.slice o (kids ns n).length c, .int .i64 0]) ∧ w'.ownsRow v.heap.size 3 1 (.slice o (kids ns n).length c) (kids ns n).length (ints (kids ns n)) ∧ Below v.heap.size v w') := fun v hv => by
    have hB : hasB ns (n : Int) = true := by unfold hasB; rw [hm, decide_eq_true (by omega)]; rfl
    have hKA : kidsA ns (n : Int) = kids ns n := by unfold kidsA; rw [if_pos hB]
    have := kidsR oT capT ns (n : Int) v (HT.out.later hv)
    rw [hB, hKA] at this
    exact this
  obtain ⟨x, rfl, hl⟩ := ht.some (by omega)
  have HLI : Hid (Lies w x ns) := hl
  have HKD : Hid ((nd ns n).kind = 1) := hk
  have j0 : (0 : Int) ≤ (n : Int) := Int.natCast_nonneg _
  have j1 : (n : Int) < (ns.length : Int) := by omega
  have HLY : Hid (a.layout = 0) := hL
  have HV : Hid (rowF ns (f + 1) n a row = plainRow (rowF ns f) ns n a (row + a.offset.toNat)) := by unfold Hid; rw [HRW, hT, if_neg (by simp), if_pos hL]
  have h8 := at_bool hC.1 hpl hk hr
  have hd := hC.1.data
  have HN : Hid (∀ v, Calls Tryz.prog 88 #[.string a.data, .int .i64 ((row + a.offset.toNat : Nat) : Int)] v fun r w' => r = .returned (.bool (BitP.bit (bl a.data) (row + a.offset.toNat))) ∧ w' = v) := fun v => Bit.refBit a.data _ (by omega) (by omega) (by omega) v
  have HPR : Hid (plainRow (rowF ns f) ns n a (row + a.offset.toNat) = boolM (BitP.bit (bl a.data) (row + a.offset.toNat))) := by unfold Hid plainRow; rw [if_neg (by omega), if_pos hk]
  clear h8 hd
  clear hL hL0 HRW hpl hl hk
  generalize rowF ns (f + 1) n a row = V at *
  have d0 := x2.c0
  have d1 := x2.c1
  have d2 := x2.c2
  have d3 := x2.c3
  have d4 := x2.c4
  have d5 := x2.c5
  have d6 := x2.c6
  have hrow64 : row ≤ 64 := by omega
  have ho64 : a.offset ≤ 64 := by omega
  clear s1 c1 b1 b2 x2 z2 ht hf hC hH hrows hlen hr
  unfold Arr.val at HTH ⊢
  generalize there a (row + a.offset.toNat) = T at *
  generalize hPP : row + a.offset.toNat = P at *
  clear hPP
  subst hT
  go_enter Tryz.func63, Tryz.ntmps63
  go_wp2_with fail
  refine (HTH.out w2).mono ?_
  rintro e w3 ⟨rfl, b3⟩
  have B3 : Hid (Below w.heap.size w w3) := bel2 B2.out b3
  have X3 : Hid (Bx w3 w1.heap.size a o cap) := X2.out.later b3
  have HC3 : Hid (w3.cell? ⟨w.heap.size, 0, none⟩ = some (.slice (some x) ns.length capT)) := cell_later b3 HCT.out
  clear b3 e1 e2 cT d0 d1 d2 d3 d4 d5 d6
  have d0 := X3.out.c0
  rw [HLY.out] at d0
  have c3 := HC3.out
  go_wp2_with fail
  refine (HKS.out w3 B3.out).mono ?_
  rintro e w4 ⟨oK, cK, rfl, hown, b4⟩
  have B4 : Hid (Below w.heap.size w w4) := bel2 B3.out b4
  have X4 : Hid (Bx w4 w1.heap.size a o cap) := X3.out.later b4
  have HC4 : Hid (w4.cell? ⟨w.heap.size, 0, none⟩ = some (.slice (some x) ns.length capT)) := cell_later b4 HC3.out
  have HIK : Hid (IsI w4 w3.heap.size oK (kids ns n)) := own_ints hown
  have HL4 : Hid (Lies w4 x ns) := HLI.out.later B4.out
  clear d0 c3 b4 hown
  have c4 := HC4.out
  have n0 := HL4.out.kind' n hn
  rw [HKD.out] at n0
  have d5 := X4.out.c5
  generalize BitP.bit (bl a.data) P = z at *
  go_wp2_with fail
  refine (HN.out w4).mono ?_
  rintro e wx ⟨rfl, rfl⟩
  go_wp2_with fail
  refine (boolR z wx).mono ?_
  rintro e w5 ⟨rfl, rfl⟩
  go_wp2
  go_ret
  exact ⟨ret_str (by rw [HV.out, HPR.out]; try rfl), B4.out⟩
set_option maxRecDepth 20000 in
set_option maxHeartbeats 3200000 in
theorem rowBytes (B f : Nat) (ns : List Nd) (oT : Option Addr) (capT n : Nat) (a : Arr) (o : Option Addr) (cap row : Nat) (w : World) (hn : n < ns.length) (hm : may ns = true) (hf : mayF ns (f + 1) n a = true) (hr : (row : Int) < a.length) (ht : IsT w oT ns) (hH : Hid (HoldsF B 96 w (f + 1) (a.cells o cap) a)) (hT : there a (row + a.offset.toNat) = true) (hL0 : a.layout = 0) (hk : (nd ns n).kind = 2) :
    Calls Tryz.prog 63 #[.agg #[.slice oT ns.length capT], .int .i64 (n : Int), a.val o cap, .int .i64 (row : Int)] w fun r w' => r = .returned (.string (mk (rowF ns (f + 1) n a row))) ∧ Below w.heap.size w w' := by
  obtain ⟨w1, e1, s1, c1, b1⟩ := boxed w (.slice oT ns.length capT) 24
  obtain ⟨w2, e2, x2, b2, z2⟩ := box7 w1 a o cap
  have hC := mayF_cases hf
  have hoff := hC.1.off
  have hrows := hC.1.rows
  have hlen := hC.1.len
  have hPE : (row : Int) + a.offset = ((row + a.offset.toNat : Nat) : Int) := by omega
  have hP64 : row + a.offset.toNat ≤ 64 := by omega
  have HTH : Hid (∀ v, Calls Tryz.prog 56 #[a.val o cap, .int .i64 ((row + a.offset.toNat : Nat) : Int)] v fun e w' => e = .returned (.bool (there a (row + a.offset.toNat))) ∧ Below v.heap.size v w') := fun v => refThere a o cap _ hC.1.valid (by
    rcases hC.1.null with c | c
    · exact .inl c
    · have := c.2; unfold rowsOf at this; right; omega) v
  have B2 : Hid (Below w.heap.size w w2) := bel2 b1 b2
  have cT := cell_later b2 c1
  have HCT : Hid (w2.cell? ⟨w.heap.size, 0, none⟩ = some (.slice oT ns.length capT)) := cT
  have X2 : Hid (Bx w2 w1.heap.size a o cap) := x2
  have HT : Hid (IsT w oT ns) := ht
  have HRW := rowF_succ ns f n a row
  have hL : a.layout = 0 := hL0
  have hpl : plainB (mayF ns f) ns n a = true := by
    rcases hC.2 with c | c
    · exact c.2
    · exact absurd hL c.1
  have HKS : Hid (∀ v, Below w.heap.size w v → Calls Tryz.prog 83 #[.agg #[.slice oT ns.length capT], .int .i64 (n : Int)] v fun r w' => ∃ o c, r = .returned (.tuple #[.slice o (kids ns n).length c, .int .i64 0]) ∧ w'.ownsRow v.heap.size 3 1 (.slice o (kids ns n).length c) (kids ns n).length (ints (kids ns n)) ∧ Below v.heap.size v w') := fun v hv => by
    have hB : hasB ns (n : Int) = true := by unfold hasB; rw [hm, decide_eq_true (by omega)]; rfl
    have hKA : kidsA ns (n : Int) = kids ns n := by unfold kidsA; rw [if_pos hB]
    have := kidsR oT capT ns (n : Int) v (HT.out.later hv)
    rw [hB, hKA] at this
    exact this
  obtain ⟨x, rfl, hl⟩ := ht.some (by omega)
  have HLI : Hid (Lies w x ns) := hl
  have HKD : Hid ((nd ns n).kind = 2) := hk
  have j0 : (0 : Int) ≤ (n : Int) := Int.natCast_nonneg _
  have j1 : (n : Int) < (ns.length : Int) := by omega
  have HLY : Hid (a.layout = 0) := hL
  have HV : Hid (rowF ns (f + 1) n a row = plainRow (rowF ns f) ns n a (row + a.offset.toNat)) := by unfold Hid; rw [HRW, hT, if_neg (by simp), if_pos hL]
  obtain ⟨h4, h5, h6, h7⟩ := at_bytes hC.1 hpl hk hr
  have HEN : Hid (∀ v, Calls Tryz.prog 117 #[a.val o cap, .int .i64 ((row + a.offset.toNat : Nat) : Int)] v fun e w' => e = .returned (.tuple #[.int .i64 ((endAt a.ends (row + a.offset.toNat) : Nat) : Int), .int .i64 ((endAt a.ends (row + a.offset.toNat + 1) : Nat) : Int)]) ∧ Below v.heap.size v w') := fun v => endsR a o cap _ hP64 h4 h5 v
  have HPR : Hid (plainRow (rowF ns f) ns n a (row + a.offset.toNat) = bytesM (part a.data (endAt a.ends (row + a.offset.toNat)) (endAt a.ends (row + a.offset.toNat + 1)))) := by unfold Hid plainRow; rw [if_neg (by omega), if_neg (by omega), if_pos hk]
  have HBY : Hid (∀ (v : World) (x y : Nat), Calls Tryz.prog 118 #[.string (a.data.extract x y)] v fun r w' => r = .returned (.string (mk (bytesM (part a.data x y)))) ∧ Below v.heap.size v w') := fun v x y => by
    have hs := hC.1.data
    have := bytesR (a.data.extract x y) (by rw [ByteArray.size_extract]; omega) v
    rw [bl_extract] at this
    exact this
  clear h4 h5
  clear hL hL0 HRW hpl hl hk
  generalize rowF ns (f + 1) n a row = V at *
  have d0 := x2.c0
  have d1 := x2.c1
  have d2 := x2.c2
  have d3 := x2.c3
  have d4 := x2.c4
  have d5 := x2.c5
  have d6 := x2.c6
  have hrow64 : row ≤ 64 := by omega
  have ho64 : a.offset ≤ 64 := by omega
  clear s1 c1 b1 b2 x2 z2 ht hf hC hH hrows hlen hr
  unfold Arr.val at HTH HEN ⊢
  generalize there a (row + a.offset.toNat) = T at *
  generalize hPP : row + a.offset.toNat = P at *
  clear hPP
  subst hT
  go_enter Tryz.func63, Tryz.ntmps63
  go_wp2_with fail
  refine (HTH.out w2).mono ?_
  rintro e w3 ⟨rfl, b3⟩
  have B3 : Hid (Below w.heap.size w w3) := bel2 B2.out b3
  have X3 : Hid (Bx w3 w1.heap.size a o cap) := X2.out.later b3
  have HC3 : Hid (w3.cell? ⟨w.heap.size, 0, none⟩ = some (.slice (some x) ns.length capT)) := cell_later b3 HCT.out
  clear b3 e1 e2 cT d0 d1 d2 d3 d4 d5 d6
  have d0 := X3.out.c0
  rw [HLY.out] at d0
  have c3 := HC3.out
  go_wp2_with fail
  refine (HKS.out w3 B3.out).mono ?_
  rintro e w4 ⟨oK, cK, rfl, hown, b4⟩
  have B4 : Hid (Below w.heap.size w w4) := bel2 B3.out b4
  have X4 : Hid (Bx w4 w1.heap.size a o cap) := X3.out.later b4
  have HC4 : Hid (w4.cell? ⟨w.heap.size, 0, none⟩ = some (.slice (some x) ns.length capT)) := cell_later b4 HC3.out
  have HIK : Hid (IsI w4 w3.heap.size oK (kids ns n)) := own_ints hown
  have HL4 : Hid (Lies w4 x ns) := HLI.out.later B4.out
  clear d0 c3 b4 hown
  have c4 := HC4.out
  have n0 := HL4.out.kind' n hn
  rw [HKD.out] at n0
  have d0 := X4.out.c0
  have d1 := X4.out.c1
  have d2 := X4.out.c2
  have d3 := X4.out.c3
  have d4 := X4.out.c4
  have d5 := X4.out.c5
  have d6 := X4.out.c6
  generalize endAt a.ends P = E at *
  generalize endAt a.ends (P + 1) = E2 at *
  go_wp2_with fail
  refine (HEN.out w4).mono ?_
  rintro e w5 ⟨rfl, b5⟩
  have B5 : Hid (Below w.heap.size w w5) := bel2 B4.out b5
  have X5 : Hid (Bx w5 w1.heap.size a o cap) := X4.out.later b5
  clear b5 d0 d1 d2 d3 d4 d5 d6 c4 n0
  have d5 := X5.out.c5
  have i1 : (E : Int) ≤ (E2 : Int) := by omega
  have i2 : (E2 : Int) ≤ (a.data.size : Int) := by omega
  go_wp2_with fail
  refine (HBY.out w5 E E2).mono ?_
  rintro e w6 ⟨rfl, b6⟩
  have B6 : Hid (Below w.heap.size w w6) := bel2 B5.out b6
  clear b6
  go_wp2
  go_ret
  exact ⟨ret_str (by rw [HV.out, HPR.out]), B6.out⟩
end Go.Proofs.YtcpfhfdgfcilaaaGreatDoor.Arr
namespace Go.Proofs.YtcpfhfdgfcilaaaGreatDoor.Arr
open Tree Val Sums

/-- A nest's row: nothing, or what stands within. -/
theorem list_row {ns : List Nd} {n f : Nat} {a : Arr} (hk : (nd ns n).kind = 3) (hl : a.layout = 0) (row : Nat) :
    rowF ns (f + 1) n a row = if there a (row + a.offset.toNat) = false then nullM else listM ((List.range (endAt a.ends (row + a.offset.toNat + 1) - endAt a.ends (row + a.offset.toNat))).map fun j => rowF ns f (kAt ns n 0) (kidAt a 0) (endAt a.ends (row + a.offset.toNat) + j)) := by
  rw [rowF]
  by_cases ht : there a (row + a.offset.toNat) = false
  · rw [if_pos ht, if_pos ht]
  · rw [if_neg ht, if_neg ht, if_pos hl, plainRow, if_neg (by rw [hk]; decide), if_neg (by rw [hk]; decide), if_neg (by rw [hk]; decide), if_pos hk]
theorem struct_row {ns : List Nd} {n f : Nat} {a : Arr} (hk : (nd ns n).kind = 4) (hl : a.layout = 0) (row : Nat) :
    rowF ns (f + 1) n a row = if there a (row + a.offset.toNat) = false then nullM else structM ((List.range (kids ns n).length).map fun i => rowF ns f (kAt ns n i) (kidAt a i) (row + a.offset.toNat)) := by
  rw [rowF]
  by_cases ht : there a (row + a.offset.toNat) = false
  · rw [if_pos ht, if_pos ht]
  · rw [if_neg ht, if_neg ht, if_pos hl, plainRow, if_neg (by rw [hk]; decide), if_neg (by rw [hk]; decide), if_neg (by rw [hk]; decide), if_neg (by rw [hk]; decide)]
theorem list_sum {ns : List Nd} {n f : Nat} {a : Arr} (hk : (nd ns n).kind = 3) (hl : a.layout = 0) (hh : Head ns n a) (hL : IsList ns f n a) : ∀ L : Nat, (L : Int) ≤ a.length →
    sumTo (fun row => (rowF ns (f + 1) n a row).length) L + sumTo (fun j => (rowF ns f (kAt ns n 0) (kidAt a 0) j).length) (endAt a.ends a.offset.toNat) ≤ 2 * L + sumTo (fun j => (rowF ns f (kAt ns n 0) (kidAt a 0) j).length) (endAt a.ends (a.offset.toNat + L)) := by
  have ho := hh.off
  intro L
  induction L with
  | zero => intro _; exact Nat.le_refl _
  | succ L ih =>
    intro h
    have h1 := ih (by omega)
    have hu := hL.ends.up (L + a.offset.toNat) (by unfold rowsOf; omega)
    rw [sumTo, list_row hk hl]
    have hs := sumTo_shift (fun j => (rowF ns f (kAt ns n 0) (kidAt a 0) j).length) (endAt a.ends (L + a.offset.toNat)) (endAt a.ends (L + a.offset.toNat + 1) - endAt a.ends (L + a.offset.toNat))
    rw [show endAt a.ends (L + a.offset.toNat) + (endAt a.ends (L + a.offset.toNat + 1) - endAt a.ends (L + a.offset.toNat)) = endAt a.ends (L + a.offset.toNat + 1) from by omega] at hs
    have hmo := sumTo_mono (fun j => (rowF ns f (kAt ns n 0) (kidAt a 0) j).length) hu
    rw [show a.offset.toNat + (L + 1) = L + a.offset.toNat + 1 from by omega]
    rw [show a.offset.toNat + L = L + a.offset.toNat from by omega] at h1
    split
    · have : nullM.length = 1 := rfl
      omega
    · rw [length_listM, length_flat]
      omega
/-- Each row is a value, as deep as its node allows; all rows together are no longer than that. -/
theorem rows_ok {ns : List Nd} (hm : May ns) : ∀ (f n : Nat) (a : Arr), n < ns.length → mayF ns f n a = true →
    (∀ row : Nat, (row : Int) < a.length → val (4 - depth ns n) (rowF ns f n a row) = some (rowF ns f n a row).length) ∧ sumTo (fun row => (rowF ns f n a row).length) a.length.toNat ≤ hang 1408 ns n := by
  intro f
  induction f with
  | zero => intro n a _ h; cases h
  | succ f ih =>
    intro n a hn h
    have hh := (mayF_cases h).1
    have ho := hh.off
    have hr := hh.rows
    have hle := hh.len
    have hhang := hang_kids hm 1408 hn
    by_cases hleaf : (nd ns n).kind = 0 ∨ (nd ns n).kind = 1 ∨ (nd ns n).kind = 2
    · have hl := leaf_row hleaf (f + 1) a h
      refine ⟨fun row hr => (hl row hr _).2.1, ?_⟩
      have h1 : sumTo (fun row => (rowF ns (f + 1) n a row).length) a.length.toNat ≤ sumTo (fun _ => 22) a.length.toNat := sumTo_le _ fun j hj => (hl j (by omega) 0).1
      rw [sumTo_const] at h1
      omega
    · have hk : (nd ns n).kind = 3 ∨ (nd ns n).kind = 4 := by have := kinds hm hn; omega
      obtain ⟨_, hlay, hp⟩ := nest_plain hk h
      rcases hk with hk | hk
      · have hL := list_of hk hp
        have h1k : 0 < (kids ns n).length := by have := hm.list n hn hk; omega
        obtain ⟨k1, k2, k3⟩ := kid_of hm h1k
        obtain ⟨i1, i2⟩ := ih _ _ k2 hL.may
        have hd := hm.depth_le k2
        refine ⟨fun row hrow => ?_, ?_⟩
        · rw [list_row hk hlay]
          split
          · exact val_null _
          · rw [show 4 - depth ns n = (4 - depth ns (kAt ns n 0)) + 1 from by omega]
            refine val_list _ _ fun v hv => ?_
            obtain ⟨j, hj, rfl⟩ := List.mem_map.1 hv
            rw [List.mem_range] at hj
            refine i1 _ ?_
            have := hL.ends.last (row + a.offset.toNat + 1) (by unfold rowsOf; omega)
            omega
        · have hs := list_sum hk hlay hh hL a.length.toNat (by omega)
          have hlast := hL.ends.last (a.offset.toNat + a.length.toNat) (by unfold rowsOf; omega)
          have hmo := sumTo_mono (fun j => (rowF ns f (kAt ns n 0) (kidAt a 0) j).length) (show endAt a.ends (a.offset.toNat + a.length.toNat) ≤ (kidAt a 0).length.toNat from by omega)
          have ht : hang 1408 ns (kAt ns n 0) ≤ ((kids ns n).map (hang 1408 ns)).sum := by
            rw [sum_kAt]
            exact sumTo_term (fun i => hang 1408 ns (kAt ns n i)) h1k
          omega
      · have hS := struct_of hk hp
        have hkid : ∀ i, i < (kids ns n).length → (∀ row : Nat, (row : Int) < (kidAt a i).length → val (4 - depth ns (kAt ns n i)) (rowF ns f (kAt ns n i) (kidAt a i) row) = some (rowF ns f (kAt ns n i) (kidAt a i) row).length) ∧ sumTo (fun row => (rowF ns f (kAt ns n i) (kidAt a i) row).length) (kidAt a i).length.toNat ≤ hang 1408 ns (kAt ns n i) :=
          fun i hi => ih _ _ (kid_of hm hi).2.1 (hS.may i hi)
        have h1k : 0 < (kids ns n).length := by have := hm.struct n hn hk; omega
        refine ⟨fun row hrow => ?_, ?_⟩
        · rw [struct_row hk hlay]
          split
          · exact val_null _
          · have hd := hm.depth_le (kid_of hm h1k).2.1
            have hd2 := (kid_of hm h1k).2.2
            rw [show 4 - depth ns n = (4 - (depth ns n + 1)) + 1 from by omega]
            refine val_struct _ _ fun v hv => ?_
            obtain ⟨i, hi, rfl⟩ := List.mem_map.1 hv
            rw [List.mem_range] at hi
            have := (hkid i hi).1 (row + a.offset.toNat) (by have := hS.rows i hi; unfold rowsOf at this; omega)
            rw [(kid_of hm hi).2.2] at this
            exact this
        · have h1 : sumTo (fun row => (rowF ns (f + 1) n a row).length) a.length.toNat ≤ sumTo (fun row => 2 + sumTo (fun i => (rowF ns f (kAt ns n i) (kidAt a i) (a.offset.toNat + row)).length) (kids ns n).length) a.length.toNat := by
            refine sumTo_le _ fun row hrow => ?_
            show (rowF ns (f + 1) n a row).length ≤ _
            rw [struct_row hk hlay, show row + a.offset.toNat = a.offset.toNat + row from by omega]
            split
            · have : nullM.length = 1 := rfl
              omega
            · rw [length_structM, length_flat]
              omega
          rw [sumTo_add (fun _ => 2), sumTo_const, sumTo_swap] at h1
          have h2 : sumTo (fun j => sumTo (fun i => (rowF ns f (kAt ns n j) (kidAt a j) (a.offset.toNat + i)).length) a.length.toNat) (kids ns n).length ≤ sumTo (fun i => hang 1408 ns (kAt ns n i)) (kids ns n).length := by
            refine sumTo_le _ fun i hi => ?_
            have hs := sumTo_shift (fun r => (rowF ns f (kAt ns n i) (kidAt a i) r).length) a.offset.toNat a.length.toNat
            have hrows := hS.rows i hi
            unfold rowsOf at hrows
            have hmo := sumTo_mono (fun r => (rowF ns f (kAt ns n i) (kidAt a i) r).length) (show a.offset.toNat + a.length.toNat ≤ (kidAt a i).length.toNat from by omega)
            have := (hkid i hi).2
            show sumTo (fun j => (rowF ns f (kAt ns n i) (kidAt a i) (a.offset.toNat + j)).length) a.length.toNat ≤ hang 1408 ns (kAt ns n i)
            omega
          rw [← sum_kAt] at h2
          omega
theorem row_short {ns : List Nd} (hm : May ns) {f n : Nat} {a : Arr} (hn : n < ns.length) (h : mayF ns f n a = true) {row : Nat} (hr : (row : Int) < a.length) : (rowF ns f n a row).length ≤ 11264 := by
  have h1 := (rows_ok hm f n a hn h).2
  have h2 := sumTo_term (fun row => (rowF ns f n a row).length) (show row < a.length.toNat from by omega)
  have h3 := hang_le hm 1408 hn
  omega
/-- A text of bytes as a string. -/
def mk (l : List UInt8) : ByteArray := ⟨l.toArray⟩
theorem partsS_mk {t : List UInt8} {k : Int} {ps : List (List UInt8)} (h : partsM t = some (k, ps)) : partsS (mk t) = some (k, ps.map mk) := by
  unfold partsS mk
  rw [bl_mk, h]
  rfl
theorem fits_null {ns : List Nd} {g n : Nat} (h : (nd ns n).null = true) : fitsF ns (g + 1) n (mk nullM) = true := by
  rw [fitsF, partsS_mk parts_null]
  show (if (-1 : Int) < 0 then (nd ns n).null else _) = true
  rw [if_pos (by decide), h]
theorem fits_leaf {ns : List Nd} {g n : Nat} {t : List UInt8} {ps : List (List UInt8)} (hk : (nd ns n).kind = 0 ∨ (nd ns n).kind = 1 ∨ (nd ns n).kind = 2) (h : partsM t = some ((nd ns n).kind, ps)) (h2 : (nd ns n).kind = 2 → (ps.getD 0 []).length ≤ 16 ∧ ps ≠ []) : fitsF ns (g + 1) n (mk t) = true := by
  rw [fitsF, partsS_mk h]
  show (if (nd ns n).kind < 0 then _ else if (nd ns n).kind ≠ (nd ns n).kind then false else if (nd ns n).kind = 2 then decide (((ps.map mk).getD 0 ByteArray.empty).size ≤ 16) else if (nd ns n).kind = 3 then _ else if (nd ns n).kind = 4 then _ else true) = true
  rw [if_neg (by omega), if_neg (fun c => c rfl)]
  by_cases e : (nd ns n).kind = 2
  · rw [if_pos e, decide_eq_true_eq]
    obtain ⟨h3, h4⟩ := h2 e
    cases ps with
    | nil => exact absurd rfl h4
    | cons q ps =>
      rw [List.getD_cons_zero] at h3
      rw [List.map_cons, List.getD_cons_zero, ← bl_length]
      unfold mk
      rw [bl_mk]
      exact h3
  · rw [if_neg e, if_neg (by omega), if_neg (by omega)]
theorem fits_list {ns : List Nd} {g n : Nat} {vs : List (List UInt8)} (hk : (nd ns n).kind = 3) (hp : partsM (listM vs) = some (3, vs)) (h64 : vs.length ≤ 64) (hv : ∀ v ∈ vs, fitsF ns g (kAt ns n 0) (mk v) = true) : fitsF ns (g + 1) n (mk (listM vs)) = true := by
  rw [fitsF, partsS_mk hp]
  show (if (3 : Int) < 0 then _ else if (3 : Int) ≠ (nd ns n).kind then false else if (3 : Int) = 2 then _ else if (3 : Int) = 3 then decide ((vs.map mk).length ≤ 64) && (vs.map mk).all (fitsF ns g ((kids ns n).getD 0 0)) else _) = true
  rw [if_neg (by decide), if_neg (fun c => c hk.symm), if_neg (by decide), if_pos rfl, Bool.and_eq_true, decide_eq_true_eq, List.all_eq_true]
  refine ⟨by rw [List.length_map]; exact h64, fun x hx => ?_⟩
  obtain ⟨v, hv', rfl⟩ := List.mem_map.1 hx
  exact hv v hv'
theorem fits_struct {ns : List Nd} {g n : Nat} {r : Nat → List UInt8} (hk : (nd ns n).kind = 4) (hp : partsM (structM ((List.range (kids ns n).length).map r)) = some (4, (List.range (kids ns n).length).map r)) (hv : ∀ i, i < (kids ns n).length → fitsF ns g (kAt ns n i) (mk (r i)) = true) : fitsF ns (g + 1) n (mk (structM ((List.range (kids ns n).length).map r))) = true := by
  rw [fitsF, partsS_mk hp]
  generalize hvs : (List.range (kids ns n).length).map r = vs
  have hl : vs.length = (kids ns n).length := by rw [← hvs]; simp
  have hat : ∀ i, i < (kids ns n).length → vs[i]? = some (r i) := by
    intro i hi
    rw [← hvs, List.getElem?_map, List.getElem?_range hi]
    rfl
  show (if (4 : Int) < 0 then _ else if (4 : Int) ≠ (nd ns n).kind then false else if (4 : Int) = 2 then _ else if (4 : Int) = 3 then _ else if (4 : Int) = 4 then decide ((vs.map mk).length = (kids ns n).length) && ((kids ns n).zip (vs.map mk)).all (fun q => fitsF ns g q.1 q.2) else true) = true
  rw [if_neg (by decide), if_neg (fun c => c hk.symm), if_neg (by decide), if_neg (by decide), if_pos rfl, Bool.and_eq_true, decide_eq_true_eq, List.all_eq_true]
  refine ⟨by rw [List.length_map]; exact hl, fun x hx => ?_⟩
  obtain ⟨i, hi⟩ := List.getElem?_of_mem hx
  rw [List.getElem?_zip_eq_some] at hi
  obtain ⟨h1, h2⟩ := hi
  have hlt : i < (kids ns n).length := (List.getElem?_eq_some_iff.1 h1).1
  rw [List.getElem?_map, hat i hlt] at h2
  have e1 : x.1 = kAt ns n i := by
    unfold kAt
    rw [List.getD_eq_getElem?_getD, h1]
    rfl
  have e2 : x.2 = mk (r i) := by
    injection h2 with h2
    exact h2.symm
  rw [e1, e2]
  exact hv i hlt
end Go.Proofs.YtcpfhfdgfcilaaaGreatDoor.Arr
