/-
  Several texts in one: Numbers of a part of a text; ends of a row: the document's ends: contract. · A row's value, by the document: a row that is nothing, a dictionary's, a run's: contracts. · A row's value, by the document: plain whole numbers, truths, bytes: contracts.
-/
import Derived.Test.YthbjeedmhgnnaaaGreatB13
import Derived.Test.YthbjeedmhgnnaaaGreatB14
import Derived.Test.YthbjeedmhgnnaaaGreatB16
import Derived.Test.YthbjeedmhgnnaaaGreatB15
import Derived.Maps.AppendAt
import Derived.OneCell
import Derived.Laws.OwnMore
namespace Go.Proofs.YthbjeedmhgnnaaaGreat.Arr
open Go.ChangeShapes Go.WideShapes Go.ChangeAt Go.RowKit
open Tree Val

/-- The number that a short text is. -/
def numS (p : ByteArray) : Int := wrap64 ((Plain.val p.data.toList 0 p.size : Nat) : Int)
def NumC : Prop := ∀ p : ByteArray, p.size ≤ 8 → ∀ v, Calls Tryz.prog 76 #[.string p] v fun r w' => r = .returned (.int .i64 (numS p)) ∧ w' = v
theorem numC : NumC := fun p hp v => Fix.refNum p v hp
theorem cut4 (s : ByteArray) (i : Nat) (h : has4 s i = true) : ∃ p : ByteArray, p.size ≤ 8 ∧ numS p = ((endAt s i : Nat) : Int) ∧
    ∀ w, (Instr.slice 9 (.string s) (some (.int .i64 (4 * (i : Int)))) (some (.int .i64 (4 * (i : Int) + 4))) none).run Tryz.prog w = .ok (.string p) w := by
  have h := (has4_iff _ _).1 h
  obtain ⟨p, h1, h2, h3⟩ := Fix.part s (4 * i) 4 h.1
  refine ⟨p, by omega, ?_, fun w => ?_⟩
  · unfold numS
    rw [h2.out]
    have : Plain.val s.data.toList (4 * i) 4 ≤ 2147483647 := h.2
    unfold wrap64
    have e : endAt s i = Plain.val s.data.toList (4 * i) 4 := rfl
    rw [e]
    omega
  · have := h3 w
    rw [show ((4 * i : Nat) : Int) = 4 * (i : Int) from by omega] at this
    exact this
theorem signed_w64 (x : Nat) (h : x < 18446744073709551616) : wrap64 (x : Int) = signed x := by
  unfold signed wrap64
  split <;> omega
theorem cut8 (s : ByteArray) (i : Nat) (h : 8 * i + 8 ≤ s.size) : ∃ p : ByteArray, p.size ≤ 8 ∧ numS p = signed (Plain.val (bl s) (8 * i) 8) ∧
    ∀ w, (Instr.slice 9 (.string s) (some (.int .i64 (8 * (i : Int)))) (some (.int .i64 (8 * (i : Int) + 8))) none).run Tryz.prog w = .ok (.string p) w := by
  obtain ⟨p, h1, h2, h3⟩ := Fix.part s (8 * i) 8 h
  refine ⟨p, by omega, ?_, fun w => ?_⟩
  · unfold numS
    rw [h2.out]
    have := Plain.val_lt s.data.toList (8 * i) 8
    have e : (256 : Nat) ^ 8 = 18446744073709551616 := by decide
    rw [e] at this
    exact signed_w64 _ this
  · have := h3 w
    rw [show ((8 * i : Nat) : Int) = 8 * (i : Int) from by omega] at this
    exact this
set_option maxRecDepth 20000 in
set_option maxHeartbeats 1600000 in
theorem endsR (a : Arr) (o : Option Addr) (cap : Nat) (r : Nat) (hr : r ≤ 64) (h0 : has4 a.ends r = true) (h1 : has4 a.ends (r + 1) = true) (w : World) :
    Calls Tryz.prog 80 #[a.val o cap, .int .i64 (r : Int)] w fun e w' => e = .returned (.tuple #[.int .i64 ((endAt a.ends r : Nat) : Int), .int .i64 ((endAt a.ends (r + 1) : Nat) : Int)]) ∧ Below w.heap.size w w' := by
  obtain ⟨w1, e1, x1, b1, z1⟩ := box7 w a o cap
  have B1 : Hid (Below w.heap.size w w1) := b1
  have d4 := x1.c4
  obtain ⟨p, hp, np, hs⟩ := cut4 a.ends r h0
  obtain ⟨q, hq, nq, hs2⟩ := cut4 a.ends (r + 1) h1
  have hs2' : ∀ w, (Instr.slice 9 (.string a.ends) (some (.int .i64 (4 * (r : Int) + 4))) (some (.int .i64 (4 * (r : Int) + 8))) none).run Tryz.prog w = .ok (.string q) w := by
    have := hs2
    rw [show 4 * ((r + 1 : Nat) : Int) = 4 * (r : Int) + 4 from by omega, show 4 * (r : Int) + 4 + 4 = 4 * (r : Int) + 8 from by omega] at this
    exact this
  have HN : Hid NumC := numC
  have HP : Hid (numS p = ((endAt a.ends r : Nat) : Int)) := np
  have HQ : Hid (numS q = ((endAt a.ends (r + 1) : Nat) : Int)) := nq
  clear x1 b1 z1 h0 h1 hs2 np nq
  unfold Arr.val
  go_enter Tryz.func80, Tryz.ntmps80
  go_wp2_with fail
  go_quiet (first | (go_at_call 76; exact Calls.quiet_of_same (HN.out _ (by assumption) _)))
  rw [HP.out, HQ.out]
  go_wp2
  go_ret2
  exact ⟨rfl, bel2 B1.out (drewN_below _ _)⟩
end Go.Proofs.YthbjeedmhgnnaaaGreat.Arr
set_option linter.unusedVariables false
set_option linter.unusedSimpArgs false
namespace Go.Proofs.YthbjeedmhgnnaaaGreat.Arr
open Go.ChangeShapes Go.WideShapes Go.ChangeAt Go.RowKit
open Tree Val

/-- What the document's value answers, of an array no deeper than told. -/
def RowC (B f : Nat) : Prop := ∀ (ns : List Nd) (oT : Option Addr) (capT n : Nat) (a : Arr) (o : Option Addr) (cap row : Nat) (w : World), n < ns.length → may ns = true → mayF ns f n a = true → (row : Int) < a.length → IsT w oT ns → HoldsF B 96 w f (a.cells o cap) a →
  Calls Tryz.prog 42 #[.agg #[.slice oT ns.length capT], .int .i64 (n : Int), a.val o cap, .int .i64 (row : Int)] w fun r w' => r = .returned (.string (mk (rowF ns f n a row))) ∧ Below w.heap.size w w'
theorem ret_str {s t : ByteArray} (h : s = t) : Ending.returned (.string s) = .returned (.string t) := by rw [h]
set_option maxRecDepth 20000 in
set_option maxHeartbeats 3200000 in
theorem rowNull (B f : Nat) (ns : List Nd) (oT : Option Addr) (capT n : Nat) (a : Arr) (o : Option Addr) (cap row : Nat) (w : World) (hn : n < ns.length) (hm : may ns = true) (hf : mayF ns (f + 1) n a = true) (hr : (row : Int) < a.length) (ht : IsT w oT ns) (hH : Hid (HoldsF B 96 w (f + 1) (a.cells o cap) a)) (hT : there a (row + a.offset.toNat) = false) :
    Calls Tryz.prog 42 #[.agg #[.slice oT ns.length capT], .int .i64 (n : Int), a.val o cap, .int .i64 (row : Int)] w fun r w' => r = .returned (.string (mk (rowF ns (f + 1) n a row))) ∧ Below w.heap.size w w' := by
  obtain ⟨w1, e1, s1, c1, b1⟩ := boxed w (.slice oT ns.length capT) 27
  obtain ⟨w2, e2, x2, b2, z2⟩ := box7 w1 a o cap
  have hC := mayF_cases hf
  have hoff := hC.1.off
  have hrows := hC.1.rows
  have hlen := hC.1.len
  have hPE : (row : Int) + a.offset = ((row + a.offset.toNat : Nat) : Int) := by omega
  have hP64 : row + a.offset.toNat ≤ 64 := by omega
  have HTH : Hid (∀ v, Calls Tryz.prog 47 #[a.val o cap, .int .i64 ((row + a.offset.toNat : Nat) : Int)] v fun e w' => e = .returned (.bool (there a (row + a.offset.toNat))) ∧ Below v.heap.size v w') := fun v => refThere a o cap _ hC.1.valid (by
    rcases hC.1.null with c | c
    · exact .inl c
    · have := c.2; unfold rowsOf at this; right; omega) v
  have B2 : Hid (Below w.heap.size w w2) := bel2 b1 b2
  have cT := cell_later b2 c1
  have HCT : Hid (w2.cell? ⟨w.heap.size, 0, none⟩ = some (.slice oT ns.length capT)) := cT
  have X2 : Hid (Bx w2 w1.heap.size a o cap) := x2
  have HT : Hid (IsT w oT ns) := ht
  have HRW := rowF_succ ns f n a row
  have HV : Hid (rowF ns (f + 1) n a row = nullM) := by unfold Hid; rw [HRW, if_pos hT]
  clear HRW
  generalize rowF ns (f + 1) n a row = V at *
  have d0 := x2.c0
  have d1 := x2.c1
  have d2 := x2.c2
  have d3 := x2.c3
  have d4 := x2.c4
  have d5 := x2.c5
  have d6 := x2.c6
  have hrow64 : row ≤ 64 := by omega
  have ho64 : a.offset ≤ 64 := by omega
  clear s1 c1 b1 b2 x2 z2 ht hf hC hH hrows hlen hr
  unfold Arr.val at HTH ⊢
  generalize there a (row + a.offset.toNat) = T at *
  generalize hPP : row + a.offset.toNat = P at *
  clear hPP
  subst hT
  go_enter Tryz.func42, Tryz.ntmps42
  go_wp2_with fail
  refine (HTH.out w2).mono ?_
  rintro e w3 ⟨rfl, b3⟩
  have B3 : Hid (Below w.heap.size w w3) := bel2 B2.out b3
  have X3 : Hid (Bx w3 w1.heap.size a o cap) := X2.out.later b3
  have HC3 : Hid (w3.cell? ⟨w.heap.size, 0, none⟩ = some (.slice oT ns.length capT)) := cell_later b3 HCT.out
  clear b3 e1 e2 cT d0 d1 d2 d3 d4 d5 d6
  go_wp2
  go_ret
  exact ⟨by rw [HV.out]; rfl, B3.out⟩
theorem dict_has {a : Arr} {ns : List Nd} {n : Nat} (hh : Head ns n a) (h : dictB a = true) {row : Nat} (hr : (row : Int) < a.length) (ht : there a (row + a.offset.toNat) = true) : has4 a.data (row + a.offset.toNat) = true := by
  unfold dictB at h
  simp only [Bool.and_eq_true, decide_eq_true_eq, List.all_eq_true, Bool.or_eq_true, Bool.not_eq_true'] at h
  have h1 := hh.off
  have := h.2 (row + a.offset.toNat) (List.mem_range.2 (by unfold rowsOf; omega))
  rcases this with c | c
  · rcases c with c | c
    · omega
    · rw [c] at ht; cases ht
  · exact c.1
set_option maxRecDepth 20000 in
set_option maxHeartbeats 3200000 in
theorem rowDict (B f : Nat) (ih : Hid (RowC B f)) (ns : List Nd) (oT : Option Addr) (capT n : Nat) (a : Arr) (o : Option Addr) (cap row : Nat) (w : World) (hn : n < ns.length) (hm : may ns = true) (hf : mayF ns (f + 1) n a = true) (hr : (row : Int) < a.length) (ht : IsT w oT ns) (hH : Hid (HoldsF B 96 w (f + 1) (a.cells o cap) a)) (hT : there a (row + a.offset.toNat) = true) (hL : a.layout = 1) :
    Calls Tryz.prog 42 #[.agg #[.slice oT ns.length capT], .int .i64 (n : Int), a.val o cap, .int .i64 (row : Int)] w fun r w' => r = .returned (.string (mk (rowF ns (f + 1) n a row))) ∧ Below w.heap.size w w' := by
  obtain ⟨w1, e1, s1, c1, b1⟩ := boxed w (.slice oT ns.length capT) 27
  obtain ⟨w2, e2, x2, b2, z2⟩ := box7 w1 a o cap
  have hC := mayF_cases hf
  have hoff := hC.1.off
  have hrows := hC.1.rows
  have hlen := hC.1.len
  have hPE : (row : Int) + a.offset = ((row + a.offset.toNat : Nat) : Int) := by omega
  have hP64 : row + a.offset.toNat ≤ 64 := by omega
  have HTH : Hid (∀ v, Calls Tryz.prog 47 #[a.val o cap, .int .i64 ((row + a.offset.toNat : Nat) : Int)] v fun e w' => e = .returned (.bool (there a (row + a.offset.toNat))) ∧ Below v.heap.size v w') := fun v => refThere a o cap _ hC.1.valid (by
    rcases hC.1.null with c | c
    · exact .inl c
    · have := c.2; unfold rowsOf at this; right; omega) v
  have B2 : Hid (Below w.heap.size w w2) := bel2 b1 b2
  have cT := cell_later b2 c1
  have HCT : Hid (w2.cell? ⟨w.heap.size, 0, none⟩ = some (.slice oT ns.length capT)) := cT
  have X2 : Hid (Bx w2 w1.heap.size a o cap) := x2
  have HT : Hid (IsT w oT ns) := ht
  have HRW := rowF_succ ns f n a row
  obtain ⟨hk1, hkl, hkf, hdd⟩ : a.kids.length = 1 ∧ (kidAt a 0).layout = 0 ∧ mayF ns f n (kidAt a 0) = true ∧ dictB a = true := by
    rcases hC.2 with c | c
    · exact absurd c.1 (by omega)
    · rcases c.2.2.2.2.2 with d | d
      · exact ⟨c.2.2.1, c.2.2.2.1, c.2.2.2.2.1, d.2⟩
      · exact absurd d.1 (by omega)
  have h4 : has4 a.data (row + a.offset.toNat) = true := dict_has hC.1 hdd hr hT
  have hlt := dict_row hC.1 hdd hr hT
  have HV : Hid (rowF ns (f + 1) n a row = rowF ns f n (kidAt a 0) (endAt a.data (row + a.offset.toNat))) := by unfold Hid; rw [HRW, hT, if_neg (by simp), if_neg (by omega), if_pos hL]
  obtain ⟨xk, ok, ck, rfl, hkid, hkh⟩ := hH.out.kid (i := 0) (by omega)
  rw [add_zero] at hkid
  have HKI : Hid (Kid w xk (kidAt a 0) ok ck) := hkid
  have HMM : Hid (∀ v, Below w.heap.size w v → Calls Tryz.prog 42 #[.agg #[.slice oT ns.length capT], .int .i64 (n : Int), (kidAt a 0).val ok ck, .int .i64 ((endAt a.data (row + a.offset.toNat) : Nat) : Int)] v fun r w' => r = .returned (.string (mk (rowF ns f n (kidAt a 0) (endAt a.data (row + a.offset.toNat))))) ∧ Below v.heap.size v w') := fun v hv => ih.out ns oT capT n (kidAt a 0) ok ck _ v hn hm hkf hlt (HT.out.later hv) (hkh.later hv)
  obtain ⟨p, hp8, hpn, hsl⟩ := cut4 a.data _ h4
  have HN : Hid (∀ v, Calls Tryz.prog 76 #[.string p] v fun r w' => r = .returned (.int .i64 ((endAt a.data (row + a.offset.toNat) : Nat) : Int)) ∧ w' = v) := fun v => by rw [← hpn]; exact numC p hp8 v
  have HK1 : Hid (a.kids.length = 1) := hk1
  have HLY : Hid (a.layout = 1) := hL
  clear hL HRW hk1 hkl hkf hdd h4 hlt hkid hkh hpn hp8
  generalize rowF ns (f + 1) n a row = V at *
  have d0 := x2.c0
  have d1 := x2.c1
  have d2 := x2.c2
  have d3 := x2.c3
  have d4 := x2.c4
  have d5 := x2.c5
  have d6 := x2.c6
  have hrow64 : row ≤ 64 := by omega
  have ho64 : a.offset ≤ 64 := by omega
  clear s1 c1 b1 b2 x2 z2 ht hf hC hH hrows hlen hr
  unfold Arr.val at HTH HMM ⊢
  generalize there a (row + a.offset.toNat) = T at *
  generalize hPP : row + a.offset.toNat = P at *
  clear hPP
  subst hT
  generalize endAt a.data P = E at *
  go_enter Tryz.func42, Tryz.ntmps42
  go_wp2_with fail
  refine (HTH.out w2).mono ?_
  rintro e w3 ⟨rfl, b3⟩
  have B3 : Hid (Below w.heap.size w w3) := bel2 B2.out b3
  have X3 : Hid (Bx w3 w1.heap.size a (some xk) cap) := X2.out.later b3
  have HC3 : Hid (w3.cell? ⟨w.heap.size, 0, none⟩ = some (.slice oT ns.length capT)) := cell_later b3 HCT.out
  clear b3 e1 e2 cT d0 d1 d2 d3 d4 d5 d6
  have d0 := X3.out.c0
  rw [HLY.out] at d0
  have hne := BW.some w3
  have C := X3.out.cells
  have cT := HC3.out
  have e5 := C.d5
  have e6 := C.d6
  have tT : ∀ s : BW w3, s.w.cell? ⟨w.heap.size, 0, none⟩ = some (.slice oT ns.length capT) := fun s => cell_later s.ok HC3.out
  have KC := (HKI.out.later B3.out).cells
  have k0 := KC.k0
  have k1 := KC.k1
  have k2 := KC.k2
  have k3 := KC.k3
  have k4 := KC.k4
  have k5 := KC.k5
  have k6 := KC.k6
  rw [HK1.out] at e6
  clear KC C ih
  generalize kidAt a 0 = kk at *
  go_wp2_with fail
  refine region_in (C := fun w' => ∃ s : BW w3, w' = s.w) (by kernel_rfl) (by kernel_rfl) ⟨⟨w3.drew, (Below.refl _ _).drew⟩, rfl⟩ ?_
  repeat (go_big_quiet_step (first
    | (go_at_call 76; rename_i s; refine (HN.out s.w).mono ?_; rintro e wx ⟨rfl, hbx⟩; exact ⟨rfl, s, hbx⟩)
    | (go_at_call 42; rename_i s; refine (HMM.out s.w (bel2 B3.out s.ok)).mono ?_; rintro e wx ⟨rfl, hbx⟩; exact ⟨rfl, ⟨wx, bel2 s.ok hbx⟩, rfl⟩)))
  refine wpQuiet_nil ?_
  intro _ hw'
  obtain ⟨s, hw''⟩ := hw'
  subst hw''
  have HE : Hid (Below w.heap.size w s.w) := bel2 B3.out s.ok
  clear hne e5 e6 tT k0 k1 k2 k3 k4 k5 k6 d0 cT
  go_wp2
  go_ret
  exact ⟨ret_str (by rw [HV.out]), HE.out⟩
theorem run_has {a : Arr} {ns : List Nd} {n : Nat} (hh : Head ns n a) (h : runB a = true) {row : Nat} (hr : (row : Int) < a.length) : (∀ k, k < (kidAt a 0).length.toNat → has4 a.data k = true) ∧ (kidAt a 0).length.toNat ≠ 0 ∧ row + a.offset.toNat < endAt a.data ((kidAt a 0).length.toNat - 1) := by
  unfold runB at h
  simp only [Bool.and_eq_true, decide_eq_true_eq, List.all_eq_true] at h
  have h1 := hh.off
  have h2 := h.2
  unfold rowsOf prev at h2
  have hk : (kidAt a 0).length.toNat ≠ 0 := fun e => by rw [if_pos e] at h2; omega
  rw [if_neg hk] at h2
  exact ⟨fun k hk => (h.1.2 k (List.mem_range.2 hk)).1, hk, by omega⟩
set_option maxRecDepth 20000 in
set_option maxHeartbeats 3200000 in
theorem rowRun (B f : Nat) (ih : Hid (RowC B f)) (ns : List Nd) (oT : Option Addr) (capT n : Nat) (a : Arr) (o : Option Addr) (cap row : Nat) (w : World) (hn : n < ns.length) (hm : may ns = true) (hf : mayF ns (f + 1) n a = true) (hr : (row : Int) < a.length) (ht : IsT w oT ns) (hH : Hid (HoldsF B 96 w (f + 1) (a.cells o cap) a)) (hT : there a (row + a.offset.toNat) = true) (hL : a.layout = 2) :
    Calls Tryz.prog 42 #[.agg #[.slice oT ns.length capT], .int .i64 (n : Int), a.val o cap, .int .i64 (row : Int)] w fun r w' => r = .returned (.string (mk (rowF ns (f + 1) n a row))) ∧ Below w.heap.size w w' := by
  obtain ⟨w1, e1, s1, c1, b1⟩ := boxed w (.slice oT ns.length capT) 27
  obtain ⟨w2, e2, x2, b2, z2⟩ := box7 w1 a o cap
  have hC := mayF_cases hf
  have hoff := hC.1.off
  have hrows := hC.1.rows
  have hlen := hC.1.len
  have hPE : (row : Int) + a.offset = ((row + a.offset.toNat : Nat) : Int) := by omega
  have hP64 : row + a.offset.toNat ≤ 64 := by omega
  have HTH : Hid (∀ v, Calls Tryz.prog 47 #[a.val o cap, .int .i64 ((row + a.offset.toNat : Nat) : Int)] v fun e w' => e = .returned (.bool (there a (row + a.offset.toNat))) ∧ Below v.heap.size v w') := fun v => refThere a o cap _ hC.1.valid (by
    rcases hC.1.null with c | c
    · exact .inl c
    · have := c.2; unfold rowsOf at this; right; omega) v
  have B2 : Hid (Below w.heap.size w w2) := bel2 b1 b2
  have cT := cell_later b2 c1
  have HCT : Hid (w2.cell? ⟨w.heap.size, 0, none⟩ = some (.slice oT ns.length capT)) := cT
  have X2 : Hid (Bx w2 w1.heap.size a o cap) := x2
  have HT : Hid (IsT w oT ns) := ht
  have HRW := rowF_succ ns f n a row
  obtain ⟨hk1, hkl, hkf, hdd⟩ : a.kids.length = 1 ∧ (kidAt a 0).layout = 0 ∧ mayF ns f n (kidAt a 0) = true ∧ runB a = true := by
    rcases hC.2 with c | c
    · exact absurd c.1 (by omega)
    · rcases c.2.2.2.2.2 with d | d
      · exact absurd d.1 (by omega)
      · exact ⟨c.2.2.1, c.2.2.2.1, c.2.2.2.2.1, d.2⟩
  obtain ⟨hrd, hne0, hlast⟩ := run_has hC.1 hdd hr
  have hlt := run_row hC.1 hdd hr
  have HV : Hid (rowF ns (f + 1) n a row = rowF ns f n (kidAt a 0) (runAt a.data (row + a.offset.toNat) (kidAt a 0).length.toNat 0)) := by unfold Hid; rw [HRW, hT, if_neg (by simp), if_neg (by omega), if_neg (by omega)]
  obtain ⟨xk, ok, ck, rfl, hkid, hkh⟩ := hH.out.kid (i := 0) (by omega)
  rw [add_zero] at hkid
  have HKI : Hid (Kid w xk (kidAt a 0) ok ck) := hkid
  have HMM : Hid (∀ v (k : Nat), Below w.heap.size w v → k = runAt a.data (row + a.offset.toNat) (kidAt a 0).length.toNat 0 → Calls Tryz.prog 42 #[.agg #[.slice oT ns.length capT], .int .i64 (n : Int), (kidAt a 0).val ok ck, .int .i64 (k : Int)] v fun r w' => r = .returned (.string (mk (rowF ns f n (kidAt a 0) k))) ∧ Below v.heap.size v w') := fun v k hv hk => ih.out ns oT capT n (kidAt a 0) ok ck k v hn hm hkf (by rw [hk]; exact hlt) (HT.out.later hv) (hkh.later hv)
  have HCUT : Hid (∀ k, k < (kidAt a 0).length.toNat → ∃ p : ByteArray, (∀ v, Calls Tryz.prog 76 #[.string p] v fun r w' => r = .returned (.int .i64 ((endAt a.data k : Nat) : Int)) ∧ w' = v) ∧
      ∀ w, (Instr.slice 9 (.string a.data) (some (.int .i64 (4 * (k : Int)))) (some (.int .i64 (4 * (k : Int) + 4))) none).run Tryz.prog w = .ok (.string p) w) := fun k hk => by
    obtain ⟨p, hp8, hpn, hsl⟩ := cut4 a.data k (hrd k hk)
    exact ⟨p, fun v => by rw [← hpn]; exact numC p hp8 v, hsl⟩
  have HRA : Hid (∀ k, (∀ j, j < k → endAt a.data j ≤ row + a.offset.toNat) → row + a.offset.toNat < endAt a.data k → k < (kidAt a 0).length.toNat → k = runAt a.data (row + a.offset.toNat) (kidAt a 0).length.toNat 0) := fun k h1 h2 h3 => by
    have := runAt_found a.data (row + a.offset.toNat) k h2 (kidAt a 0).length.toNat 0 (by omega) (Nat.zero_le _) (fun j hj => absurd hj (Nat.not_lt_zero j))
    by_cases c : runAt a.data (row + a.offset.toNat) (kidAt a 0).length.toNat 0 < k
    · have := h1 _ c
      omega
    · omega
  have HLAST : Hid (row + a.offset.toNat < endAt a.data ((kidAt a 0).length.toNat - 1) ∧ (kidAt a 0).length.toNat ≠ 0) := ⟨hlast, hne0⟩
  have HK1 : Hid (a.kids.length = 1) := hk1
  have HLY : Hid (a.layout = 2) := hL
  have hK64 : (kidAt a 0).length.toNat ≤ 64 := by
    obtain ⟨g, rfl⟩ : ∃ g, f = g + 1 := by
      cases f with
      | zero => cases hkf
      | succ g => exact ⟨g, rfl⟩
    have := (mayF_cases hkf).1
    have h1 := this.off
    have h2 := this.rows
    omega
  clear hL HRW hk1 hkl hkf hdd hlt hkid hkh hrd hlast hne0
  generalize rowF ns (f + 1) n a row = V at *
  have d0 := x2.c0
  have d1 := x2.c1
  have d2 := x2.c2
  have d3 := x2.c3
  have d4 := x2.c4
  have d5 := x2.c5
  have d6 := x2.c6
  have hrow64 : row ≤ 64 := by omega
  have ho64 : a.offset ≤ 64 := by omega
  clear s1 c1 b1 b2 x2 z2 ht hf hC hH hrows hlen hr
  unfold Arr.val at HTH HMM ⊢
  generalize there a (row + a.offset.toNat) = T at *
  generalize hPP : row + a.offset.toNat = P at *
  clear hPP
  subst hT
  generalize runAt a.data P (kidAt a 0).length.toNat 0 = RA at *
  generalize (kidAt a 0).length.toNat = K at *
  go_enter Tryz.func42, Tryz.ntmps42
  go_wp2_with fail
  refine (HTH.out w2).mono ?_
  rintro e w3 ⟨rfl, b3⟩
  have B3 : Hid (Below w.heap.size w w3) := bel2 B2.out b3
  have X3 : Hid (Bx w3 w1.heap.size a (some xk) cap) := X2.out.later b3
  have HC3 : Hid (w3.cell? ⟨w.heap.size, 0, none⟩ = some (.slice oT ns.length capT)) := cell_later b3 HCT.out
  clear b3 e1 e2 cT d0 d1 d2 d3 d4 d5 d6
  have d0 := X3.out.c0
  have d5 := X3.out.c5
  rw [HLY.out] at d0
  go_wp2_with fail
  go_loopw [9] (fun t wr => ∃ k : Nat, k < K ∧ t = .int .i64 (k : Int) ∧ (∀ j, j < k → endAt a.data j ≤ P) ∧ Below w3.heap.size w3 wr) (fun t _ => K - (intOf t).toNat)
  case atStart => exact ⟨0, by have := HLAST.out.2; omega, rfl, fun j hj => absurd hj (Nat.not_lt_zero j), Below.refl _ _⟩
  case round =>
    obtain ⟨k, hk, rfl, hall, hbl⟩ := hrel
    have HA : Hid (∀ j, j < k → endAt a.data j ≤ P) := hall
    have BR : Hid (Below w.heap.size w wr) := bel2 B3.out hbl
    have BL : Hid (Below w3.heap.size w3 wr) := hbl
    have XR : Hid (Bx wr w1.heap.size a (some xk) cap) := X3.out.later hbl
    have HCR : Hid (wr.cell? ⟨w.heap.size, 0, none⟩ = some (.slice oT ns.length capT)) := cell_later hbl HC3.out
    clear d0 d5 hall hbl
    have d5 := XR.out.c5
    obtain ⟨p, hnum, hsl⟩ := HCUT.out k hk
    have HN : Hid (∀ v, Calls Tryz.prog 76 #[.string p] v fun r w' => r = .returned (.int .i64 ((endAt a.data k : Nat) : Int)) ∧ w' = v) := hnum
    have HEK : Hid (∃ E, E = endAt a.data k) := ⟨_, rfl⟩
    have HX := HRA.out k HA.out
    have HX2 : Hid (P < endAt a.data k → k = RA) := fun h => HX h hk
    have HX3 : Hid (endAt a.data k ≤ P → k + 1 < K) := fun h => by
      by_cases c : k + 1 < K
      · exact c
      · have := HLAST.out
        rw [show K - 1 = k from by omega] at this
        omega
    have HX4 : Hid (endAt a.data k ≤ P → ∀ j, j < k + 1 → endAt a.data j ≤ P) := fun h j hj => by
      by_cases c : j = k
      · rw [c]; exact h
      · exact HA.out j (by omega)
    clear hnum HX HEK
    generalize endAt a.data k = E at *
    have hk64 : k ≤ 64 := by omega
    by_cases hle : E ≤ P
    · have c1 : ((E : Nat) : Int) ≤ (P : Int) := by omega
      have HX3' := HX3.out hle
      have HX4' : Hid _ := HX4.out hle
      go_wp2_with fail
      refine (HN.out wr).mono ?_
      rintro e wx ⟨rfl, rfl⟩
      go_wp2
      go_roundw
      case rel => exact ⟨k + 1, HX3', by go_num, HX4'.out, BL.out⟩
      case measure => simp [intOf]; omega
    · have c1 : ¬ ((E : Nat) : Int) ≤ (P : Int) := by omega
      have HKR : Hid (k = RA) := HX2.out (by omega)
      have HM2 : Hid (∀ v, Below wr.heap.size wr v → Calls Tryz.prog 42 #[.agg #[.slice oT ns.length capT], .int .i64 (n : Int), (kidAt a 0).val ok ck, .int .i64 (k : Int)] v fun r w' => r = .returned (.string (mk V)) ∧ Below v.heap.size v w') := fun v hv => by
        rw [HV.out, ← HKR.out]
        exact HMM.out v k (bel2 BR.out hv) HKR.out
      go_wp2_with fail
      refine (HN.out wr).mono ?_
      rintro e wx ⟨rfl, hwx⟩
      obtain rfl := hwx.symm
      go_wp2_with fail
      have hne := BW.some wr
      have C := XR.out.cells
      have e6 := C.d6
      have tT : ∀ s : BW wr, s.w.cell? ⟨w.heap.size, 0, none⟩ = some (.slice oT ns.length capT) := fun s => cell_later s.ok HCR.out
      have KC := (HKI.out.later BR.out).cells
      have k0 := KC.k0
      have k1 := KC.k1
      have k2 := KC.k2
      have k3 := KC.k3
      have k4 := KC.k4
      have k5 := KC.k5
      have k6 := KC.k6
      rw [HK1.out] at e6
      clear KC C
      unfold Arr.val at HM2
      generalize kidAt a 0 = kk at *
      refine region_in (C := fun w' => ∃ s : BW wr, w' = s.w) (by kernel_rfl) (by kernel_rfl) ⟨⟨wr.drew, (Below.refl _ _).drew⟩, rfl⟩ ?_
      repeat (go_big_quiet_step (first
        | (go_at_call 42; rename_i s; refine (HM2.out s.w s.ok).mono ?_; rintro e wx ⟨rfl, hbx⟩; exact ⟨rfl, ⟨wx, bel2 s.ok hbx⟩, rfl⟩)))
      refine wpQuiet_nil ?_
      intro _ hw'
      obtain ⟨s, hw''⟩ := hw'
      subst hw''
      have HE : Hid (Below w.heap.size w s.w) := bel2 BR.out s.ok
      clear hne e6 tT k0 k1 k2 k3 k4 k5 k6 d5
      go_wp2
      go_ret
      exact ⟨rfl, HE.out⟩
end Go.Proofs.YthbjeedmhgnnaaaGreat.Arr
set_option linter.unusedVariables false
set_option linter.unusedSimpArgs false
namespace Go.Proofs.YthbjeedmhgnnaaaGreat.Arr
open Go.ChangeShapes Go.WideShapes Go.ChangeAt Go.RowKit
open Tree Val

/-- What the walk over a plain row asks of whole numbers, truths and bytes. -/
theorem at_int {ns : List Nd} {n : Nat} {a : Arr} {rec : Nat → Arr → Bool} (hh : Head ns n a) (hp : plainB rec ns n a = true) (hk : (nd ns n).kind = 0) {row : Nat} (hr : (row : Int) < a.length) : 8 * (row + a.offset.toNat) + 8 ≤ a.data.size := by
  unfold plainB at hp
  rw [if_pos hk] at hp
  simp only [Bool.and_eq_true, decide_eq_true_eq] at hp
  have := hp.2
  have := hh.off
  unfold rowsOf at *
  omega
theorem at_bool {ns : List Nd} {n : Nat} {a : Arr} {rec : Nat → Arr → Bool} (hh : Head ns n a) (hp : plainB rec ns n a = true) (hk : (nd ns n).kind = 1) {row : Nat} (hr : (row : Int) < a.length) : row + a.offset.toNat < 8 * a.data.size := by
  unfold plainB at hp
  rw [if_neg (by omega), if_pos hk] at hp
  simp only [Bool.and_eq_true, decide_eq_true_eq] at hp
  have := hp.2
  have := hh.off
  unfold rowsOf at *
  omega
theorem at_bytes {ns : List Nd} {n : Nat} {a : Arr} {rec : Nat → Arr → Bool} (hh : Head ns n a) (hp : plainB rec ns n a = true) (hk : (nd ns n).kind = 2) {row : Nat} (hr : (row : Int) < a.length) : has4 a.ends (row + a.offset.toNat) = true ∧ has4 a.ends (row + a.offset.toNat + 1) = true ∧ endAt a.ends (row + a.offset.toNat) ≤ endAt a.ends (row + a.offset.toNat + 1) ∧ endAt a.ends (row + a.offset.toNat + 1) ≤ a.data.size := by
  unfold plainB at hp
  rw [if_neg (by omega), if_neg (by omega), if_pos hk] at hp
  rw [Bool.and_eq_true] at hp
  have ho := hh.off
  have hE := endsB_ends hp.2
  have h2 := hE.last (row + a.offset.toNat + 1) (by unfold rowsOf; omega)
  exact ⟨(has4_iff _ _).2 ⟨hE.size _ (by unfold rowsOf; omega), hE.most _ (by unfold rowsOf; omega)⟩, (has4_iff _ _).2 ⟨hE.size _ (by unfold rowsOf; omega), hE.most _ (by unfold rowsOf; omega)⟩, hE.mono (by omega) (by unfold rowsOf; omega), by omega⟩
set_option maxRecDepth 20000 in
set_option maxHeartbeats 3200000 in
theorem rowInt (B f : Nat) (ns : List Nd) (oT : Option Addr) (capT n : Nat) (a : Arr) (o : Option Addr) (cap row : Nat) (w : World) (hn : n < ns.length) (hm : may ns = true) (hf : mayF ns (f + 1) n a = true) (hr : (row : Int) < a.length) (ht : IsT w oT ns) (hH : Hid (HoldsF B 96 w (f + 1) (a.cells o cap) a)) (hT : there a (row + a.offset.toNat) = true) (hL0 : a.layout = 0) (hk : (nd ns n).kind = 0) :
    Calls Tryz.prog 42 #[.agg #[.slice oT ns.length capT], .int .i64 (n : Int), a.val o cap, .int .i64 (row : Int)] w fun r w' => r = .returned (.string (mk (rowF ns (f + 1) n a row))) ∧ Below w.heap.size w w' := by
  obtain ⟨w1, e1, s1, c1, b1⟩ := boxed w (.slice oT ns.length capT) 27
  obtain ⟨w2, e2, x2, b2, z2⟩ := box7 w1 a o cap
  have hC := mayF_cases hf
  have hoff := hC.1.off
  have hrows := hC.1.rows
  have hlen := hC.1.len
  have hPE : (row : Int) + a.offset = ((row + a.offset.toNat : Nat) : Int) := by omega
  have hP64 : row + a.offset.toNat ≤ 64 := by omega
  have HTH : Hid (∀ v, Calls Tryz.prog 47 #[a.val o cap, .int .i64 ((row + a.offset.toNat : Nat) : Int)] v fun e w' => e = .returned (.bool (there a (row + a.offset.toNat))) ∧ Below v.heap.size v w') := fun v => refThere a o cap _ hC.1.valid (by
    rcases hC.1.null with c | c
    · exact .inl c
    · have := c.2; unfold rowsOf at this; right; omega) v
  have B2 : Hid (Below w.heap.size w w2) := bel2 b1 b2
  have cT := cell_later b2 c1
  have HCT : Hid (w2.cell? ⟨w.heap.size, 0, none⟩ = some (.slice oT ns.length capT)) := cT
  have X2 : Hid (Bx w2 w1.heap.size a o cap) := x2
  have HT : Hid (IsT w oT ns) := ht
  have HRW := rowF_succ ns f n a row
  have hL : a.layout = 0 := hL0
  have hpl : plainB (mayF ns f) ns n a = true := by
    rcases hC.2 with c | c
    · exact c.2
    · exact absurd hL c.1
  have HKS : Hid (∀ v, Below w.heap.size w v → Calls Tryz.prog 50 #[.agg #[.slice oT ns.length capT], .int .i64 (n : Int)] v fun r w' => ∃ o c, r = .returned (.tuple #[.slice o (kids ns n).length c, .int .i64 0]) ∧ w'.ownsRow v.heap.size 3 1 (.slice o (kids ns n).length c) (kids ns n).length (ints (kids ns n)) ∧ Below v.heap.size v w') := fun v hv => by
    have hB : hasB ns (n : Int) = true := by unfold hasB; rw [hm, decide_eq_true (by omega)]; rfl
    have hKA : kidsA ns (n : Int) = kids ns n := by unfold kidsA; rw [if_pos hB]
    have := kidsR oT capT ns (n : Int) v (HT.out.later hv)
    rw [hB, hKA] at this
    exact this
  obtain ⟨x, rfl, hl⟩ := ht.some (by omega)
  have HLI : Hid (Lies w x ns) := hl
  have HKD : Hid ((nd ns n).kind = 0) := hk
  have j0 : (0 : Int) ≤ (n : Int) := Int.natCast_nonneg _
  have j1 : (n : Int) < (ns.length : Int) := by omega
  have HLY : Hid (a.layout = 0) := hL
  have HV : Hid (rowF ns (f + 1) n a row = plainRow (rowF ns f) ns n a (row + a.offset.toNat)) := by unfold Hid; rw [HRW, hT, if_neg (by simp), if_pos hL]
  have h8 := at_int hC.1 hpl hk hr
  obtain ⟨p, hp8, hpn, hsl⟩ := cut8 a.data _ h8
  have HN : Hid (∀ v, Calls Tryz.prog 76 #[.string p] v fun r w' => r = .returned (.int .i64 (signed (Plain.val (bl a.data) (8 * (row + a.offset.toNat)) 8))) ∧ w' = v) := fun v => by rw [← hpn]; exact numC p hp8 v
  have HI : Hid (∀ v, Calls Tryz.prog 77 #[.int .i64 (signed (Plain.val (bl a.data) (8 * (row + a.offset.toNat)) 8))] v fun r w' => r = .returned (.string (mk (intM (signed (Plain.val (bl a.data) (8 * (row + a.offset.toNat)) 8))))) ∧ Below v.heap.size v w') := fun v => intR _ (signed_in _ (by
    have hx := Plain.val_lt (bl a.data) (8 * (row + a.offset.toNat)) 8
    rw [show 256 ^ 8 = 18446744073709551616 from rfl] at hx
    exact hx)) v
  have HPR : Hid (plainRow (rowF ns f) ns n a (row + a.offset.toNat) = intM (signed (Plain.val (bl a.data) (8 * (row + a.offset.toNat)) 8))) := by unfold Hid plainRow; rw [if_pos hk]
  clear h8 hpn hp8
  clear hL hL0 HRW hpl hl hk
  generalize rowF ns (f + 1) n a row = V at *
  have d0 := x2.c0
  have d1 := x2.c1
  have d2 := x2.c2
  have d3 := x2.c3
  have d4 := x2.c4
  have d5 := x2.c5
  have d6 := x2.c6
  have hrow64 : row ≤ 64 := by omega
  have ho64 : a.offset ≤ 64 := by omega
  clear s1 c1 b1 b2 x2 z2 ht hf hC hH hrows hlen hr
  unfold Arr.val at HTH ⊢
  generalize there a (row + a.offset.toNat) = T at *
  generalize hPP : row + a.offset.toNat = P at *
  clear hPP
  subst hT
  go_enter Tryz.func42, Tryz.ntmps42
  go_wp2_with fail
  refine (HTH.out w2).mono ?_
  rintro e w3 ⟨rfl, b3⟩
  have B3 : Hid (Below w.heap.size w w3) := bel2 B2.out b3
  have X3 : Hid (Bx w3 w1.heap.size a o cap) := X2.out.later b3
  have HC3 : Hid (w3.cell? ⟨w.heap.size, 0, none⟩ = some (.slice (some x) ns.length capT)) := cell_later b3 HCT.out
  clear b3 e1 e2 cT d0 d1 d2 d3 d4 d5 d6
  have d0 := X3.out.c0
  rw [HLY.out] at d0
  have c3 := HC3.out
  go_wp2_with fail
  refine (HKS.out w3 B3.out).mono ?_
  rintro e w4 ⟨oK, cK, rfl, hown, b4⟩
  have B4 : Hid (Below w.heap.size w w4) := bel2 B3.out b4
  have X4 : Hid (Bx w4 w1.heap.size a o cap) := X3.out.later b4
  have HC4 : Hid (w4.cell? ⟨w.heap.size, 0, none⟩ = some (.slice (some x) ns.length capT)) := cell_later b4 HC3.out
  have HIK : Hid (IsI w4 w3.heap.size oK (kids ns n)) := own_ints hown
  have HL4 : Hid (Lies w4 x ns) := HLI.out.later B4.out
  clear d0 c3 b4 hown
  have c4 := HC4.out
  have n0 := HL4.out.kind' n hn
  rw [HKD.out] at n0
  have d5 := X4.out.c5
  generalize signed (Plain.val (bl a.data) (8 * P) 8) = z at *
  go_wp2_with fail
  refine (HN.out w4).mono ?_
  rintro e wx ⟨rfl, rfl⟩
  go_wp2_with fail
  refine (HI.out wx).mono ?_
  rintro e w5 ⟨rfl, b5⟩
  have B5 : Hid (Below w.heap.size w w5) := bel2 B4.out b5
  clear b5
  go_wp2
  go_ret
  exact ⟨ret_str (by rw [HV.out, HPR.out]), B5.out⟩
set_option maxRecDepth 20000 in
set_option maxHeartbeats 3200000 in
theorem rowBool (B f : Nat) (ns : List Nd) (oT : Option Addr) (capT n : Nat) (a : Arr) (o : Option Addr) (cap row : Nat) (w : World) (hn : n < ns.length) (hm : may ns = true) (hf : mayF ns (f + 1) n a = true) (hr : (row : Int) < a.length) (ht : IsT w oT ns) (hH : Hid (HoldsF B 96 w (f + 1) (a.cells o cap) a)) (hT : there a (row + a.offset.toNat) = true) (hL0 : a.layout = 0) (hk : (nd ns n).kind = 1) :
    Calls Tryz.prog 42 #[.agg #[.slice oT ns.length capT], .int .i64 (n : Int), a.val o cap, .int .i64 (row : Int)] w fun r w' => r = .returned (.string (mk (rowF ns (f + 1) n a row))) ∧ Below w.heap.size w w' := by
  obtain ⟨w1, e1, s1, c1, b1⟩ := boxed w (.slice oT ns.length capT) 27
  obtain ⟨w2, e2, x2, b2, z2⟩ := box7 w1 a o cap
  have hC := mayF_cases hf
  have hoff := hC.1.off
  have hrows := hC.1.rows
  have hlen := hC.1.len
  have hPE : (row : Int) + a.offset = ((row + a.offset.toNat : Nat) : Int) := by omega
  have hP64 : row + a.offset.toNat ≤ 64 := by omega
  have HTH : Hid (∀ v, Calls Tryz.prog 47 #[a.val o cap, .int .i64 ((row + a.offset.toNat : Nat) : Int)] v fun e w' => e = .returned (.bool (there a (row + a.offset.toNat))) ∧ Below v.heap.size v w') := fun v => refThere a o cap _ hC.1.valid (by
    rcases hC.1.null with c | c
    · exact .inl c
    · have := c.2; unfold rowsOf at this; right; omega) v
  have B2 : Hid (Below w.heap.size w w2) := bel2 b1 b2
  have cT := cell_later b2 c1
  have HCT : Hid (w2.cell? ⟨w.heap.size, 0, none⟩ = some (.slice oT ns.length capT)) := cT
  have X2 : Hid (Bx w2 w1.heap.size a o cap) := x2
  have HT : Hid (IsT w oT ns) := ht
  have HRW := rowF_succ ns f n a row
  have hL : a.layout = 0 := hL0
  have hpl : plainB (mayF ns f) ns n a = true := by
    rcases hC.2 with c | c
    · exact c.2
    · exact absurd hL c.1
  have HKS : Hid (∀ v, Below w.heap.size w v → Calls Tryz.prog 50 #[.agg #[.slice oT ns.length capT], .int .i64 (n : Int)] v fun r w' => ∃ o c, r = .returned (.tuple #[.slice o (kids ns n).length c, .int .i64 0]) ∧ w'.ownsRow v.heap.size 3 1 (.slice o (kids ns n).length c) (kids ns n).length (ints (kids ns n)) ∧ Below v.heap.size v w') := fun v hv => by
    have hB : hasB ns (n : Int) = true := by unfold hasB; rw [hm, decide_eq_true (by omega)]; rfl
    have hKA : kidsA ns (n : Int) = kids ns n := by unfold kidsA; rw [if_pos hB]
    have := kidsR oT capT ns (n : Int) v (HT.out.later hv)
    rw [hB, hKA] at this
    exact this
  obtain ⟨x, rfl, hl⟩ := ht.some (by omega)
  have HLI : Hid (Lies w x ns) := hl
  have HKD : Hid ((nd ns n).kind = 1) := hk
  have j0 : (0 : Int) ≤ (n : Int) := Int.natCast_nonneg _
  have j1 : (n : Int) < (ns.length : Int) := by omega
  have HLY : Hid (a.layout = 0) := hL
  have HV : Hid (rowF ns (f + 1) n a row = plainRow (rowF ns f) ns n a (row + a.offset.toNat)) := by unfold Hid; rw [HRW, hT, if_neg (by simp), if_pos hL]
  have h8 := at_bool hC.1 hpl hk hr
  have hd := hC.1.data
  have HN : Hid (∀ v, Calls Tryz.prog 79 #[.string a.data, .int .i64 ((row + a.offset.toNat : Nat) : Int)] v fun r w' => r = .returned (.bool (BitP.bit (bl a.data) (row + a.offset.toNat))) ∧ w' = v) := fun v => Bit.refBit a.data _ (by omega) (by omega) (by omega) v
  have HPR : Hid (plainRow (rowF ns f) ns n a (row + a.offset.toNat) = boolM (BitP.bit (bl a.data) (row + a.offset.toNat))) := by unfold Hid plainRow; rw [if_neg (by omega), if_pos hk]
  clear h8 hd
  clear hL hL0 HRW hpl hl hk
  generalize rowF ns (f + 1) n a row = V at *
  have d0 := x2.c0
  have d1 := x2.c1
  have d2 := x2.c2
  have d3 := x2.c3
  have d4 := x2.c4
  have d5 := x2.c5
  have d6 := x2.c6
  have hrow64 : row ≤ 64 := by omega
  have ho64 : a.offset ≤ 64 := by omega
  clear s1 c1 b1 b2 x2 z2 ht hf hC hH hrows hlen hr
  unfold Arr.val at HTH ⊢
  generalize there a (row + a.offset.toNat) = T at *
  generalize hPP : row + a.offset.toNat = P at *
  clear hPP
  subst hT
  go_enter Tryz.func42, Tryz.ntmps42
  go_wp2_with fail
  refine (HTH.out w2).mono ?_
  rintro e w3 ⟨rfl, b3⟩
  have B3 : Hid (Below w.heap.size w w3) := bel2 B2.out b3
  have X3 : Hid (Bx w3 w1.heap.size a o cap) := X2.out.later b3
  have HC3 : Hid (w3.cell? ⟨w.heap.size, 0, none⟩ = some (.slice (some x) ns.length capT)) := cell_later b3 HCT.out
  clear b3 e1 e2 cT d0 d1 d2 d3 d4 d5 d6
  have d0 := X3.out.c0
  rw [HLY.out] at d0
  have c3 := HC3.out
  go_wp2_with fail
  refine (HKS.out w3 B3.out).mono ?_
  rintro e w4 ⟨oK, cK, rfl, hown, b4⟩
  have B4 : Hid (Below w.heap.size w w4) := bel2 B3.out b4
  have X4 : Hid (Bx w4 w1.heap.size a o cap) := X3.out.later b4
  have HC4 : Hid (w4.cell? ⟨w.heap.size, 0, none⟩ = some (.slice (some x) ns.length capT)) := cell_later b4 HC3.out
  have HIK : Hid (IsI w4 w3.heap.size oK (kids ns n)) := own_ints hown
  have HL4 : Hid (Lies w4 x ns) := HLI.out.later B4.out
  clear d0 c3 b4 hown
  have c4 := HC4.out
  have n0 := HL4.out.kind' n hn
  rw [HKD.out] at n0
  have d5 := X4.out.c5
  generalize BitP.bit (bl a.data) P = z at *
  go_wp2_with fail
  refine (HN.out w4).mono ?_
  rintro e wx ⟨rfl, rfl⟩
  go_wp2_with fail
  refine (boolR z wx).mono ?_
  rintro e w5 ⟨rfl, rfl⟩
  go_wp2
  go_ret
  exact ⟨ret_str (by rw [HV.out, HPR.out]; try rfl), B4.out⟩
set_option maxRecDepth 20000 in
set_option maxHeartbeats 3200000 in
theorem rowBytes (B f : Nat) (ns : List Nd) (oT : Option Addr) (capT n : Nat) (a : Arr) (o : Option Addr) (cap row : Nat) (w : World) (hn : n < ns.length) (hm : may ns = true) (hf : mayF ns (f + 1) n a = true) (hr : (row : Int) < a.length) (ht : IsT w oT ns) (hH : Hid (HoldsF B 96 w (f + 1) (a.cells o cap) a)) (hT : there a (row + a.offset.toNat) = true) (hL0 : a.layout = 0) (hk : (nd ns n).kind = 2) :
    Calls Tryz.prog 42 #[.agg #[.slice oT ns.length capT], .int .i64 (n : Int), a.val o cap, .int .i64 (row : Int)] w fun r w' => r = .returned (.string (mk (rowF ns (f + 1) n a row))) ∧ Below w.heap.size w w' := by
  obtain ⟨w1, e1, s1, c1, b1⟩ := boxed w (.slice oT ns.length capT) 27
  obtain ⟨w2, e2, x2, b2, z2⟩ := box7 w1 a o cap
  have hC := mayF_cases hf
  have hoff := hC.1.off
  have hrows := hC.1.rows
  have hlen := hC.1.len
  have hPE : (row : Int) + a.offset = ((row + a.offset.toNat : Nat) : Int) := by omega
  have hP64 : row + a.offset.toNat ≤ 64 := by omega
  have HTH : Hid (∀ v, Calls Tryz.prog 47 #[a.val o cap, .int .i64 ((row + a.offset.toNat : Nat) : Int)] v fun e w' => e = .returned (.bool (there a (row + a.offset.toNat))) ∧ Below v.heap.size v w') := fun v => refThere a o cap _ hC.1.valid (by
    rcases hC.1.null with c | c
    · exact .inl c
    · have := c.2; unfold rowsOf at this; right; omega) v
  have B2 : Hid (Below w.heap.size w w2) := bel2 b1 b2
  have cT := cell_later b2 c1
  have HCT : Hid (w2.cell? ⟨w.heap.size, 0, none⟩ = some (.slice oT ns.length capT)) := cT
  have X2 : Hid (Bx w2 w1.heap.size a o cap) := x2
  have HT : Hid (IsT w oT ns) := ht
  have HRW := rowF_succ ns f n a row
  have hL : a.layout = 0 := hL0
  have hpl : plainB (mayF ns f) ns n a = true := by
    rcases hC.2 with c | c
    · exact c.2
    · exact absurd hL c.1
  have HKS : Hid (∀ v, Below w.heap.size w v → Calls Tryz.prog 50 #[.agg #[.slice oT ns.length capT], .int .i64 (n : Int)] v fun r w' => ∃ o c, r = .returned (.tuple #[.slice o (kids ns n).length c, .int .i64 0]) ∧ w'.ownsRow v.heap.size 3 1 (.slice o (kids ns n).length c) (kids ns n).length (ints (kids ns n)) ∧ Below v.heap.size v w') := fun v hv => by
    have hB : hasB ns (n : Int) = true := by unfold hasB; rw [hm, decide_eq_true (by omega)]; rfl
    have hKA : kidsA ns (n : Int) = kids ns n := by unfold kidsA; rw [if_pos hB]
    have := kidsR oT capT ns (n : Int) v (HT.out.later hv)
    rw [hB, hKA] at this
    exact this
  obtain ⟨x, rfl, hl⟩ := ht.some (by omega)
  have HLI : Hid (Lies w x ns) := hl
  have HKD : Hid ((nd ns n).kind = 2) := hk
  have j0 : (0 : Int) ≤ (n : Int) := Int.natCast_nonneg _
  have j1 : (n : Int) < (ns.length : Int) := by omega
  have HLY : Hid (a.layout = 0) := hL
  have HV : Hid (rowF ns (f + 1) n a row = plainRow (rowF ns f) ns n a (row + a.offset.toNat)) := by unfold Hid; rw [HRW, hT, if_neg (by simp), if_pos hL]
  obtain ⟨h4, h5, h6, h7⟩ := at_bytes hC.1 hpl hk hr
  have HEN : Hid (∀ v, Calls Tryz.prog 80 #[a.val o cap, .int .i64 ((row + a.offset.toNat : Nat) : Int)] v fun e w' => e = .returned (.tuple #[.int .i64 ((endAt a.ends (row + a.offset.toNat) : Nat) : Int), .int .i64 ((endAt a.ends (row + a.offset.toNat + 1) : Nat) : Int)]) ∧ Below v.heap.size v w') := fun v => endsR a o cap _ hP64 h4 h5 v
  have HPR : Hid (plainRow (rowF ns f) ns n a (row + a.offset.toNat) = bytesM (part a.data (endAt a.ends (row + a.offset.toNat)) (endAt a.ends (row + a.offset.toNat + 1)))) := by unfold Hid plainRow; rw [if_neg (by omega), if_neg (by omega), if_pos hk]
  have HBY : Hid (∀ (v : World) (x y : Nat), Calls Tryz.prog 81 #[.string (a.data.extract x y)] v fun r w' => r = .returned (.string (mk (bytesM (part a.data x y)))) ∧ Below v.heap.size v w') := fun v x y => by
    have hs := hC.1.data
    have := bytesR (a.data.extract x y) (by rw [ByteArray.size_extract]; omega) v
    rw [bl_extract] at this
    exact this
  clear h4 h5
  clear hL hL0 HRW hpl hl hk
  generalize rowF ns (f + 1) n a row = V at *
  have d0 := x2.c0
  have d1 := x2.c1
  have d2 := x2.c2
  have d3 := x2.c3
  have d4 := x2.c4
  have d5 := x2.c5
  have d6 := x2.c6
  have hrow64 : row ≤ 64 := by omega
  have ho64 : a.offset ≤ 64 := by omega
  clear s1 c1 b1 b2 x2 z2 ht hf hC hH hrows hlen hr
  unfold Arr.val at HTH HEN ⊢
  generalize there a (row + a.offset.toNat) = T at *
  generalize hPP : row + a.offset.toNat = P at *
  clear hPP
  subst hT
  go_enter Tryz.func42, Tryz.ntmps42
  go_wp2_with fail
  refine (HTH.out w2).mono ?_
  rintro e w3 ⟨rfl, b3⟩
  have B3 : Hid (Below w.heap.size w w3) := bel2 B2.out b3
  have X3 : Hid (Bx w3 w1.heap.size a o cap) := X2.out.later b3
  have HC3 : Hid (w3.cell? ⟨w.heap.size, 0, none⟩ = some (.slice (some x) ns.length capT)) := cell_later b3 HCT.out
  clear b3 e1 e2 cT d0 d1 d2 d3 d4 d5 d6
  have d0 := X3.out.c0
  rw [HLY.out] at d0
  have c3 := HC3.out
  go_wp2_with fail
  refine (HKS.out w3 B3.out).mono ?_
  rintro e w4 ⟨oK, cK, rfl, hown, b4⟩
  have B4 : Hid (Below w.heap.size w w4) := bel2 B3.out b4
  have X4 : Hid (Bx w4 w1.heap.size a o cap) := X3.out.later b4
  have HC4 : Hid (w4.cell? ⟨w.heap.size, 0, none⟩ = some (.slice (some x) ns.length capT)) := cell_later b4 HC3.out
  have HIK : Hid (IsI w4 w3.heap.size oK (kids ns n)) := own_ints hown
  have HL4 : Hid (Lies w4 x ns) := HLI.out.later B4.out
  clear d0 c3 b4 hown
  have c4 := HC4.out
  have n0 := HL4.out.kind' n hn
  rw [HKD.out] at n0
  have d0 := X4.out.c0
  have d1 := X4.out.c1
  have d2 := X4.out.c2
  have d3 := X4.out.c3
  have d4 := X4.out.c4
  have d5 := X4.out.c5
  have d6 := X4.out.c6
  generalize endAt a.ends P = E at *
  generalize endAt a.ends (P + 1) = E2 at *
  go_wp2_with fail
  refine (HEN.out w4).mono ?_
  rintro e w5 ⟨rfl, b5⟩
  have B5 : Hid (Below w.heap.size w w5) := bel2 B4.out b5
  have X5 : Hid (Bx w5 w1.heap.size a o cap) := X4.out.later b5
  clear b5 d0 d1 d2 d3 d4 d5 d6 c4 n0
  have d5 := X5.out.c5
  have i1 : (E : Int) ≤ (E2 : Int) := by omega
  have i2 : (E2 : Int) ≤ (a.data.size : Int) := by omega
  go_wp2_with fail
  refine (HBY.out w5 E E2).mono ?_
  rintro e w6 ⟨rfl, b6⟩
  have B6 : Hid (Below w.heap.size w w6) := bel2 B5.out b6
  clear b6
  go_wp2
  go_ret
  exact ⟨ret_str (by rw [HV.out, HPR.out]), B6.out⟩
end Go.Proofs.YthbjeedmhgnnaaaGreat.Arr
