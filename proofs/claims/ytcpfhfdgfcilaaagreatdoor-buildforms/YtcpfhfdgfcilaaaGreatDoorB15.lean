/-
  Several texts in one: A row's value, by the document: a list: contract. · A row's value, by the document: a struct: contract. · All rows' values, by the document: Values: contract. · A taker's bytes: contracts.
-/
import Derived.Test.YtcpfhfdgfcilaaaGreatDoorB14
import Derived.Test.YtcpfhfdgfcilaaaGreatDoorB09
import Derived.Test.YtcpfhfdgfcilaaaGreatDoorB12
import Derived.Maps.AppendAt
import Derived.OneCell
import Derived.Laws.OwnMore
import Derived.Test.YtcpfhfdgfcilaaaGreatDoorB11
set_option linter.unusedVariables false
set_option linter.unusedSimpArgs false
namespace Go.Proofs.YtcpfhfdgfcilaaaGreatDoor.Arr
open Go.ChangeShapes Go.WideShapes Go.ChangeAt Go.RowKit
open Tree Val

theorem info9 : (Tryz.prog.info? 9).map (fun i => (i.zero, i.size, i.bytes)) = some (some (.string ⟨#[]⟩), 1, 16) := by kernel_rfl
theorem at_list {ns : List Nd} {n f : Nat} {a : Arr} (hh : Head ns n a) (hp : plainB (mayF ns f) ns n a = true) (hk : (nd ns n).kind = 3) {row : Nat} (hr : (row : Int) < a.length) : has4 a.ends (row + a.offset.toNat) = true ∧ has4 a.ends (row + a.offset.toNat + 1) = true ∧ endAt a.ends (row + a.offset.toNat) ≤ endAt a.ends (row + a.offset.toNat + 1) ∧ (endAt a.ends (row + a.offset.toNat + 1) : Int) ≤ (kidAt a 0).length ∧ a.kids.length = 1 ∧ mayF ns f (kAt ns n 0) (kidAt a 0) = true := by
  have hl := list_of hk hp
  unfold plainB at hp
  rw [if_neg (by omega), if_neg (by omega), if_neg (by omega), if_pos hk] at hp
  simp only [Bool.and_eq_true, decide_eq_true_eq] at hp
  have ho := hh.off
  have hE := hl.ends
  exact ⟨(has4_iff _ _).2 ⟨hE.size _ (by unfold rowsOf; omega), hE.most _ (by unfold rowsOf; omega)⟩, (has4_iff _ _).2 ⟨hE.size _ (by unfold rowsOf; omega), hE.most _ (by unfold rowsOf; omega)⟩, hE.mono (by omega) (by unfold rowsOf; omega), hE.last _ (by unfold rowsOf; omega), hp.1.1.2, hl.may⟩
/-- Texts that are told one behind the other. -/
def told (g : Nat → List UInt8) (k : Nat) : List ByteArray := (List.range k).map fun j => mk (g j)
theorem told_snoc (g : Nat → List UInt8) (k : Nat) : told g (k + 1) = told g k ++ [mk (g k)] := by simp [told, List.range_succ]
theorem length_told (g : Nat → List UInt8) (k : Nat) : (told g k).length = k := by simp [told]
theorem told_bl (g : Nat → List UInt8) (k : Nat) : (told g k).map bl = (List.range k).map g := by
  simp only [told, List.map_map]
  exact List.map_congr_left fun j _ => bl_mk _
theorem told_flat (g : Nat → List UInt8) (m : Nat) : ∀ k, (∀ j, j < k → (g j).length ≤ m) → (flat (told g k)).length ≤ m * k := by
  intro k
  induction k with
  | zero => intro _; exact Nat.zero_le _
  | succ k ih =>
    intro h
    rw [told_snoc]
    have e : (flat (told g k ++ [mk (g k)])).length = (flat (told g k)).length + (g k).length := by
      simp [flat]
      exact congrArg List.length (bl_mk _)
    rw [e]
    have := h k (Nat.lt_succ_self k)
    have := ih fun j hj => h j (by omega)
    rw [Nat.mul_succ]
    omega
/-- An append that is carried out. -/
theorem upon_append {P : Program} {o : Oper} {a : Act} {w w' : World} {s x : Operand} {t ty : TypeId} {v' sv xv : Value} {K : Act → World → Prop} {Q : Exit → Act → World → Prop} (ho : o.op = .call { callee := .builtin .append, args := #[s, x], argTypes := #[t, t] }) (hty : o.type = ty) (hs : a.eval s = sv) (hx : a.eval x = xv)
    (hr : (Builtin.append_ #[t, t] ty #[sv, xv]).run P w = .ok v' w') (hK : K (a.put o.dst v') w') : Oper.wp P o a w K Q := by
  subst hty hs hx
  unfold Oper.wp execOp
  simp only [ho, resolve, invoke, builtin, Sem.run_bind, Sem.run_pure, Result.andThen_ok, List.map_toArray, List.map_cons, List.map_nil, hr]
  exact hK
/-- A text appended to a row of one's own. -/
theorem append_text {w : World} {base n : Nat} {v : Value} {ss : List ByteArray} (h : w.ownsRow base 9 1 v n (Texts.cellsT ss)) (hb : base ≤ w.heap.size) (hn : n ≤ 4096) (t : ByteArray) (hv : n = ss.length) :
    ∃ o c w', (Builtin.append_ #[29, 29] 29 #[v, .slice (some ⟨w.heap.size, 0, none⟩) 1 1]).run Tryz.prog (w.alloc (.cells #[.string t] 9)) = .ok (.slice o (n + 1) c) w' ∧ w'.ownsRow base 9 1 (.slice o (n + 1) c) (n + 1) (Texts.cellsT (ss ++ [t])) ∧ Below base w w' := by
  obtain ⟨i9, hi, hz0, hz1, hz2⟩ := info_parts info9
  have hal : (w.alloc (.cells #[.string t] 9)).ownsRow base 9 1 v n (Texts.cellsT ss) := h.alloc _
  obtain ⟨v', w', hr, h2, h3, h4, h5⟩ := run_append_own_at (P := Tryz.prog) (w.alloc (.cells #[.string t] 9)) base 29 29 9 i9 (.string ⟨#[]⟩) 1 16 Tryz.underlying29 hi hz0 hz1 hz2 rfl (by decide) v n _ hal ⟨w.heap.size, 0, none⟩ 1 1 [.string t] rfl (cell_one_new _ _ _) (by intro u hu; simp at hu; subst hu; rfl) (by unfold maxLen; omega) (by omega) (by simp; omega)
  obtain ⟨o, c, rfl⟩ := ownsRow_len h2
  refine ⟨o, c, w', hr, by rw [Texts.cellsT_snoc]; exact h2, ?_⟩
  exact ((Below.refl base w).alloc hb _).grown h3 (by simp; omega) (fun i hi => (hal.lt i hi).1)
set_option maxRecDepth 20000 in
set_option maxHeartbeats 3200000 in
theorem rowList (B f : Nat) (ih : Hid (RowC B f)) (ns : List Nd) (oT : Option Addr) (capT n : Nat) (a : Arr) (o : Option Addr) (cap row : Nat) (w : World) (hn : n < ns.length) (hm : may ns = true) (hf : mayF ns (f + 1) n a = true) (hr : (row : Int) < a.length) (ht : IsT w oT ns) (hH : Hid (HoldsF B 96 w (f + 1) (a.cells o cap) a)) (hT : there a (row + a.offset.toNat) = true) (hL0 : a.layout = 0) (hk : (nd ns n).kind = 3) :
    Calls Tryz.prog 63 #[.agg #[.slice oT ns.length capT], .int .i64 (n : Int), a.val o cap, .int .i64 (row : Int)] w fun r w' => r = .returned (.string (mk (rowF ns (f + 1) n a row))) ∧ Below w.heap.size w w' := by
  obtain ⟨w1, e1, s1, c1, b1⟩ := boxed w (.slice oT ns.length capT) 24
  obtain ⟨w2, e2, x2, b2, z2⟩ := box7 w1 a o cap
  have hC := mayF_cases hf
  have hoff := hC.1.off
  have hrows := hC.1.rows
  have hlen := hC.1.len
  have hPE : (row : Int) + a.offset = ((row + a.offset.toNat : Nat) : Int) := by omega
  have hP64 : row + a.offset.toNat ≤ 64 := by omega
  have HTH : Hid (∀ v, Calls Tryz.prog 56 #[a.val o cap, .int .i64 ((row + a.offset.toNat : Nat) : Int)] v fun e w' => e = .returned (.bool (there a (row + a.offset.toNat))) ∧ Below v.heap.size v w') := fun v => refThere a o cap _ hC.1.valid (by
    rcases hC.1.null with c | c
    · exact .inl c
    · have := c.2; unfold rowsOf at this; right; omega) v
  have B2 : Hid (Below w.heap.size w w2) := bel2 b1 b2
  have cT := cell_later b2 c1
  have HCT : Hid (w2.cell? ⟨w.heap.size, 0, none⟩ = some (.slice oT ns.length capT)) := cT
  have X2 : Hid (Bx w2 w1.heap.size a o cap) := x2
  have HT : Hid (IsT w oT ns) := ht
  have HRW := rowF_succ ns f n a row
  have hL : a.layout = 0 := hL0
  have hpl : plainB (mayF ns f) ns n a = true := by
    rcases hC.2 with c | c
    · exact c.2
    · exact absurd hL c.1
  have HKS : Hid (∀ v, Below w.heap.size w v → Calls Tryz.prog 83 #[.agg #[.slice oT ns.length capT], .int .i64 (n : Int)] v fun r w' => ∃ o c, r = .returned (.tuple #[.slice o (kids ns n).length c, .int .i64 0]) ∧ w'.ownsRow v.heap.size 3 1 (.slice o (kids ns n).length c) (kids ns n).length (ints (kids ns n)) ∧ Below v.heap.size v w') := fun v hv => by
    have hB : hasB ns (n : Int) = true := by unfold hasB; rw [hm, decide_eq_true (by omega)]; rfl
    have hKA : kidsA ns (n : Int) = kids ns n := by unfold kidsA; rw [if_pos hB]
    have := kidsR oT capT ns (n : Int) v (HT.out.later hv)
    rw [hB, hKA] at this
    exact this
  obtain ⟨x, rfl, hl⟩ := ht.some (by omega)
  have HLI : Hid (Lies w x ns) := hl
  have HKD : Hid ((nd ns n).kind = 3) := hk
  have j0 : (0 : Int) ≤ (n : Int) := Int.natCast_nonneg _
  have j1 : (n : Int) < (ns.length : Int) := by omega
  have HLY : Hid (a.layout = 0) := hL
  have HV : Hid (rowF ns (f + 1) n a row = plainRow (rowF ns f) ns n a (row + a.offset.toNat)) := by unfold Hid; rw [HRW, hT, if_neg (by simp), if_pos hL]
  obtain ⟨h4, h5, h6, h7, h8, h9⟩ := at_list hC.1 hpl hk hr
  have HEN : Hid (∀ v, Calls Tryz.prog 117 #[a.val o cap, .int .i64 ((row + a.offset.toNat : Nat) : Int)] v fun e w' => e = .returned (.tuple #[.int .i64 ((endAt a.ends (row + a.offset.toNat) : Nat) : Int), .int .i64 ((endAt a.ends (row + a.offset.toNat + 1) : Nat) : Int)]) ∧ Below v.heap.size v w') := fun v => endsR a o cap _ hP64 h4 h5 v
  have HPR : Hid (plainRow (rowF ns f) ns n a (row + a.offset.toNat) = listM ((List.range (endAt a.ends (row + a.offset.toNat + 1) - endAt a.ends (row + a.offset.toNat))).map fun j => rowF ns f (kAt ns n 0) (kidAt a 0) (endAt a.ends (row + a.offset.toNat) + j))) := by unfold Hid plainRow; rw [if_neg (by omega), if_neg (by omega), if_neg (by omega), if_pos hk]
  have h1k : (kids ns n).length = 1 := (may_of hm).list n hn hk
  have hkn : kAt ns n 0 < ns.length := kids_lt n 0 (by omega)
  have hk64 : (kidAt a 0).length ≤ 64 := by
    obtain ⟨g, rfl⟩ : ∃ g, f = g + 1 := by
      cases f with
      | zero => cases h9
      | succ g => exact ⟨g, rfl⟩
    have := (mayF_cases h9).1
    have h1 := this.off
    have h2 := this.rows
    omega
  obtain ⟨xk, ok, ck, rfl, hkid, hkh⟩ := hH.out.kid (i := 0) (by omega)
  rw [add_zero] at hkid
  have HKI : Hid (Kid w xk (kidAt a 0) ok ck) := hkid
  have HMM : Hid (∀ v (r : Nat), Below w.heap.size w v → (r : Int) < (kidAt a 0).length → Calls Tryz.prog 63 #[.agg #[.slice (some x) ns.length capT], .int .i64 ((kAt ns n 0 : Nat) : Int), (kidAt a 0).val ok ck, .int .i64 (r : Int)] v fun e w' => e = .returned (.string (mk (rowF ns f (kAt ns n 0) (kidAt a 0) r))) ∧ Below v.heap.size v w') := fun v r hv hr => ih.out ns (some x) capT (kAt ns n 0) (kidAt a 0) ok ck r v hkn hm h9 hr (HT.out.later hv) (hkh.later hv)
  have HSH : Hid (∀ r : Nat, (r : Int) < (kidAt a 0).length → (rowF ns f (kAt ns n 0) (kidAt a 0) r).length ≤ 11264) := fun r hr => row_short (may_of hm) hkn h9 hr
  have HK1 : Hid (a.kids.length = 1) := h8
  have H1K : Hid ((kids ns n).length = 1) := h1k
  clear h4 h5 h8 h9 h1k hkid hkh ih
  clear hL hL0 HRW hpl hl hk
  generalize rowF ns (f + 1) n a row = V at *
  have d0 := x2.c0
  have d1 := x2.c1
  have d2 := x2.c2
  have d3 := x2.c3
  have d4 := x2.c4
  have d5 := x2.c5
  have d6 := x2.c6
  have hrow64 : row ≤ 64 := by omega
  have ho64 : a.offset ≤ 64 := by omega
  clear s1 c1 b1 b2 x2 z2 ht hf hC hH hrows hlen hr
  unfold Arr.val at HTH HEN HMM ⊢
  generalize there a (row + a.offset.toNat) = T at *
  generalize hPP : row + a.offset.toNat = P at *
  clear hPP
  subst hT
  go_enter Tryz.func63, Tryz.ntmps63
  go_wp2_with fail
  refine (HTH.out w2).mono ?_
  rintro e w3 ⟨rfl, b3⟩
  have B3 : Hid (Below w.heap.size w w3) := bel2 B2.out b3
  have X3 : Hid (Bx w3 w1.heap.size a (some xk) cap) := X2.out.later b3
  have HC3 : Hid (w3.cell? ⟨w.heap.size, 0, none⟩ = some (.slice (some x) ns.length capT)) := cell_later b3 HCT.out
  clear b3 e1 e2 cT d0 d1 d2 d3 d4 d5 d6
  have d0 := X3.out.c0
  rw [HLY.out] at d0
  have c3 := HC3.out
  go_wp2_with fail
  refine (HKS.out w3 B3.out).mono ?_
  rintro e w4 ⟨oK, cK, rfl, hown, b4⟩
  have B4 : Hid (Below w.heap.size w w4) := bel2 B3.out b4
  have X4 : Hid (Bx w4 w1.heap.size a (some xk) cap) := X3.out.later b4
  have HC4 : Hid (w4.cell? ⟨w.heap.size, 0, none⟩ = some (.slice (some x) ns.length capT)) := cell_later b4 HC3.out
  have HIK : Hid (IsI w4 w3.heap.size oK (kids ns n)) := own_ints hown
  have HL4 : Hid (Lies w4 x ns) := HLI.out.later B4.out
  clear d0 c3 b4 hown
  have c4 := HC4.out
  have n0 := HL4.out.kind' n hn
  rw [HKD.out] at n0
  have d0 := X4.out.c0
  have d1 := X4.out.c1
  have d2 := X4.out.c2
  have d3 := X4.out.c3
  have d4 := X4.out.c4
  have d5 := X4.out.c5
  have d6 := X4.out.c6
  generalize endAt a.ends P = E at *
  generalize endAt a.ends (P + 1) = E2 at *
  generalize kidAt a 0 = kk at *
  go_wp2_with fail
  refine (HEN.out w4).mono ?_
  rintro e w5 ⟨rfl, b5⟩
  have B5 : Hid (Below w.heap.size w w5) := bel2 B4.out b5
  have X5 : Hid (Bx w5 w1.heap.size a (some xk) cap) := X4.out.later b5
  have HC5 : Hid (w5.cell? ⟨w.heap.size, 0, none⟩ = some (.slice (some x) ns.length capT)) := cell_later b5 HC4.out
  have HIK5 : Hid (IsI w5 w3.heap.size oK (kids ns n)) := HIK.out.later b5
  have HKI5 : Hid (Kid w5 xk kk ok ck) := HKI.out.later B5.out
  clear b5 d0 d1 d2 d3 d4 d5 d6 c4 n0
  rcases HIK5.out with hI | ⟨g, rfl, _, hrowK⟩
  · have := H1K.out
    rw [hI] at this
    cases this
  have hg := hrowK.cell 0 (by rw [H1K.out]; omega)
  have KLA : Hid (∀ W', Below w5.heap.size w5 W' → (W'.cell? ⟨w.heap.size, 0, none⟩ = some (.slice (some x) ns.length capT) ∧ W'.cell? ⟨g, 0, none⟩ = some (.int .i64 ((kAt ns n 0 : Nat) : Int)) ∧ W'.cell? ⟨w1.heap.size, 6, none⟩ = some (.slice (some xk) 1 cap) ∧ W'.cell? xk = some (.int .i64 kk.layout) ∧ W'.cell? { block := xk.block, off := xk.off + 1 } = some (.int .i64 kk.offset) ∧ W'.cell? { block := xk.block, off := xk.off + 2 } = some (.int .i64 kk.length) ∧ W'.cell? { block := xk.block, off := xk.off + 3 } = some (.string kk.valid) ∧ W'.cell? { block := xk.block, off := xk.off + 4 } = some (.string kk.ends) ∧ W'.cell? { block := xk.block, off := xk.off + 5 } = some (.string kk.data) ∧ W'.cell? { block := xk.block, off := xk.off + 6 } = some (.slice ok kk.kids.length ck))) := by
    intro W' hb
    have d6 := X5.out.c6
    rw [HK1.out] at d6
    have KK := HKI5.out.later hb
    exact ⟨cell_later hb HC5.out, cell_later hb hg, cell_later hb d6, KK.k0, KK.k1, KK.k2, KK.k3, KK.k4, KK.k5, KK.k6⟩
  generalize hG : (fun j => rowF ns f (kAt ns n 0) kk (E + j)) = G at *
  have HG : Hid (∀ j, rowF ns f (kAt ns n 0) kk (E + j) = G j) := fun j => by rw [← hG]
  have hmx : E2 ≤ 64 := by omega
  clear hrowK hg hG
  rw [H1K.out]
  go_wp2_with fail
  go_loopw [12, 17] (fun v t wr => ∃ (k : Nat) (ss : List ByteArray) (ov : Option Addr) (cv : Nat), k ≤ E2 - E ∧ t = .int .i64 (((E + k : Nat) : Int)) ∧ v = .slice ov ss.length cv ∧ ss = told G k ∧ wr.ownsRow w5.heap.size 9 1 (.slice ov ss.length cv) ss.length (Texts.cellsT ss) ∧ Below w5.heap.size w5 wr) (fun _ t _ => E2 - (intOf t).toNat)
  case atStart => exact ⟨0, [], none, 0, Nat.zero_le _, by rw [Nat.add_zero], by rw [List.length_nil], by simp [told], World.ownsRow_nil _ _ _ _, Below.refl _ _⟩
  case round =>
    obtain ⟨k, ss, ov, cv, hk, rfl, rfl, hss, hown, hbl⟩ := hrel
    have HOWN : Hid (wr.ownsRow w5.heap.size 9 1 (.slice ov ss.length cv) ss.length (Texts.cellsT ss)) := hown
    have HSS : Hid (ss = told G k) := hss
    have BL : Hid (Below w5.heap.size w5 wr) := hbl
    have hsl : ss.length = k := by rw [hss, length_told]
    clear hown hss hbl
    by_cases hlt : E + k < E2
    · have BLD : Hid (Below w5.heap.size w5 wr.drew) := bel2 BL.out (drewN_below wr 1)
      have BRD : Hid (Below w.heap.size w wr.drew) := bel2 B5.out BLD.out
      have KR : Hid (wr.drew.cell? ⟨w.heap.size, 0, none⟩ = some (.slice (some x) ns.length capT) ∧ wr.drew.cell? ⟨g, 0, none⟩ = some (.int .i64 ((kAt ns n 0 : Nat) : Int)) ∧ wr.drew.cell? ⟨w1.heap.size, 6, none⟩ = some (.slice (some xk) 1 cap) ∧ wr.drew.cell? xk = some (.int .i64 kk.layout) ∧ wr.drew.cell? { block := xk.block, off := xk.off + 1 } = some (.int .i64 kk.offset) ∧ wr.drew.cell? { block := xk.block, off := xk.off + 2 } = some (.int .i64 kk.length) ∧ wr.drew.cell? { block := xk.block, off := xk.off + 3 } = some (.string kk.valid) ∧ wr.drew.cell? { block := xk.block, off := xk.off + 4 } = some (.string kk.ends) ∧ wr.drew.cell? { block := xk.block, off := xk.off + 5 } = some (.string kk.data) ∧ wr.drew.cell? { block := xk.block, off := xk.off + 6 } = some (.slice ok kk.kids.length ck)) := KLA.out _ BLD.out
      have HM2 : Hid (∀ v, Below w.heap.size w v → Calls Tryz.prog 63 #[.agg #[.slice (some x) ns.length capT], .int .i64 ((kAt ns n 0 : Nat) : Int), kk.val ok ck, .int .i64 ((E + k : Nat) : Int)] v fun e w' => e = .returned (.string (mk (G k))) ∧ Below v.heap.size v w') := fun v hv => by
        rw [← HG.out k]
        exact HMM.out v (E + k) hv (by omega)
      unfold Arr.val at HM2
      have HSL : Hid (ss.length = k) := hsl
      have hs64 : ss.length ≤ 64 := by omega
      clear hsl
      go_wp2_with fail
      refine wp_region_noPanic ?_
      refine wp_region_held_drew (S := fun W : World => W.cell? ⟨w.heap.size, 0, none⟩ = some (.slice (some x) ns.length capT) ∧ W.cell? ⟨g, 0, none⟩ = some (.int .i64 ((kAt ns n 0 : Nat) : Int)) ∧ W.cell? ⟨w1.heap.size, 6, none⟩ = some (.slice (some xk) 1 cap) ∧ W.cell? xk = some (.int .i64 kk.layout) ∧ W.cell? { block := xk.block, off := xk.off + 1 } = some (.int .i64 kk.offset) ∧ W.cell? { block := xk.block, off := xk.off + 2 } = some (.int .i64 kk.length) ∧ W.cell? { block := xk.block, off := xk.off + 3 } = some (.string kk.valid) ∧ W.cell? { block := xk.block, off := xk.off + 4 } = some (.string kk.ends) ∧ W.cell? { block := xk.block, off := xk.off + 5 } = some (.string kk.data) ∧ W.cell? { block := xk.block, off := xk.off + 6 } = some (.slice ok kk.kids.length ck)) (by kernel_rfl) KR.out (fun h0 => ?_)
      refine take_at (i := 0) (d := some 129) (v := ?v0) rfl rfl (by kernel_rfl) (by kernel_rfl) (by kernel_rfl) (fun _ _ _ h => h) (Or.inl ⟨by rfl, ?y0⟩) h0 ?r0
      case y0 => (intro w' hSw; (try dsimp only at hSw); go_simp; try with_reducible rfl)
      try simp only [Act.put, List.setIfInBounds_toArray, List.set_cons_zero, List.set_cons_succ]
      refine take_at (i := 1) (d := some 130) (v := ?v1) rfl rfl (by kernel_rfl) (by kernel_rfl) (by kernel_rfl) (fun _ _ _ h => h) (Or.inl ⟨by rfl, ?y1⟩) h0 ?r1
      case y1 => (intro w' hSw; (try dsimp only at hSw); go_simp; try with_reducible rfl)
      try simp only [Act.put, List.setIfInBounds_toArray, List.set_cons_zero, List.set_cons_succ]
      refine take_at (i := 2) (d := some 131) (v := ?v2) rfl rfl (by kernel_rfl) (by kernel_rfl) (by kernel_rfl) (fun _ _ _ h => h) (Or.inl ⟨by rfl, ?y2⟩) h0 ?r2
      case y2 => (intro w' hSw; (try dsimp only at hSw); go_simp; try with_reducible rfl)
      try simp only [Act.put, List.setIfInBounds_toArray, List.set_cons_zero, List.set_cons_succ]
      refine take_at (i := 3) (d := some 132) (v := ?v3) rfl rfl (by kernel_rfl) (by kernel_rfl) (by kernel_rfl) (fun _ _ _ h => h) (Or.inl ⟨by rfl, ?y3⟩) h0 ?r3
      case y3 => (intro w' hSw; (try dsimp only at hSw); go_simp; try with_reducible rfl)
      try simp only [Act.put, List.setIfInBounds_toArray, List.set_cons_zero, List.set_cons_succ]
      refine take_at (i := 4) (d := some 133) (v := ?v4) rfl rfl (by kernel_rfl) (by kernel_rfl) (by kernel_rfl) (fun _ _ _ h => h) (Or.inl ⟨by rfl, ?y4⟩) h0 ?r4
      case y4 => (intro w' hSw; (try dsimp only at hSw); go_simp; try with_reducible rfl)
      try simp only [Act.put, List.setIfInBounds_toArray, List.set_cons_zero, List.set_cons_succ]
      refine take_at (i := 5) (d := some 134) (v := ?v5) rfl rfl (by kernel_rfl) (by kernel_rfl) (by kernel_rfl) (fun _ _ _ h => h) (Or.inl ⟨by rfl, ?y5⟩) h0 ?r5
      case y5 => (intro w' hSw; (try dsimp only at hSw); go_simp; try with_reducible rfl)
      try simp only [Act.put, List.setIfInBounds_toArray, List.set_cons_zero, List.set_cons_succ]
      refine take_at (i := 6) (d := some 135) (v := ?v6) rfl rfl (by kernel_rfl) (by kernel_rfl) (by kernel_rfl) (fun _ _ _ h => h) (Or.inl ⟨by rfl, ?y6⟩) h0 ?r6
      case y6 => (intro w' hSw; (try dsimp only at hSw); go_simp; try with_reducible rfl)
      try simp only [Act.put, List.setIfInBounds_toArray, List.set_cons_zero, List.set_cons_succ]
      refine take_at (i := 7) (d := some 136) (v := ?v7) rfl rfl (by kernel_rfl) (by kernel_rfl) (by kernel_rfl) (fun _ _ _ h => h) (Or.inl ⟨by rfl, ?y7⟩) h0 ?r7
      case y7 => (intro w' hSw; (try dsimp only at hSw); go_simp; try with_reducible rfl)
      try simp only [Act.put, List.setIfInBounds_toArray, List.set_cons_zero, List.set_cons_succ]
      refine take_at (i := 8) (d := some 137) (v := ?v8) rfl rfl (by kernel_rfl) (by kernel_rfl) (by kernel_rfl) (fun _ _ _ h => h) (Or.inl ⟨by rfl, ?y8⟩) h0 ?r8
      case y8 => (intro w' hSw; (try dsimp only at hSw); go_simp; try with_reducible rfl)
      try simp only [Act.put, List.setIfInBounds_toArray, List.set_cons_zero, List.set_cons_succ]
      refine take_at (i := 9) (d := some 138) (v := ?v9) rfl rfl (by kernel_rfl) (by kernel_rfl) (by kernel_rfl) (fun _ _ _ h => h) (Or.inl ⟨by rfl, ?y9⟩) h0 ?r9
      case y9 => (intro w' hSw; (try dsimp only at hSw); go_simp; try with_reducible rfl)
      try simp only [Act.put, List.setIfInBounds_toArray, List.set_cons_zero, List.set_cons_succ]
      refine wpAnyH_ready (rs := [10]) (by kernel_rfl) (by simp) ?_
      refine AllReadyH.cons rfl (fun K hK => ?_) AllReadyH.nil
      go_simp
      go_at_call 63
      refine (HM2.out _ BRD.out).mono ?_
      rintro e w7 ⟨rfl, b7⟩
      have B7 : Hid (Below w5.heap.size w5 w7) := bel2 BLD.out b7
      have K7 : Hid (w7.cell? ⟨w.heap.size, 0, none⟩ = some (.slice (some x) ns.length capT) ∧ w7.cell? ⟨g, 0, none⟩ = some (.int .i64 ((kAt ns n 0 : Nat) : Int)) ∧ w7.cell? ⟨w1.heap.size, 6, none⟩ = some (.slice (some xk) 1 cap) ∧ w7.cell? xk = some (.int .i64 kk.layout) ∧ w7.cell? { block := xk.block, off := xk.off + 1 } = some (.int .i64 kk.offset) ∧ w7.cell? { block := xk.block, off := xk.off + 2 } = some (.int .i64 kk.length) ∧ w7.cell? { block := xk.block, off := xk.off + 3 } = some (.string kk.valid) ∧ w7.cell? { block := xk.block, off := xk.off + 4 } = some (.string kk.ends) ∧ w7.cell? { block := xk.block, off := xk.off + 5 } = some (.string kk.data) ∧ w7.cell? { block := xk.block, off := xk.off + 6 } = some (.slice ok kk.kids.length ck)) := KLA.out _ B7.out
      have HO7 : Hid (w7.ownsRow w5.heap.size 9 1 (.slice ov ss.length cv) ss.length (Texts.cellsT ss)) := ownsRow_grown HOWN.out (bel2 (drewN_below wr 1) b7)
      clear b7
      refine hK.out _ _ K7.out (fun h1 => ?_)
      clear hK K
      try simp only [Act.put, List.setIfInBounds_toArray, List.set_cons_zero, List.set_cons_succ]
      refine wpAnyH_ready (rs := [11]) (by kernel_rfl) (by simp) ?_
      refine AllReadyH.cons rfl (fun K hK => ?_) AllReadyH.nil
      go_simp
      have B8 : Hid (Below w5.heap.size w5 (w7.alloc (.cells #[.string (mk (G k))] 9))) := B7.out.alloc B7.out.size _
      have K8 : Hid ((w7.alloc (.cells #[.string (mk (G k))] 9)).cell? ⟨w.heap.size, 0, none⟩ = some (.slice (some x) ns.length capT) ∧ (w7.alloc (.cells #[.string (mk (G k))] 9)).cell? ⟨g, 0, none⟩ = some (.int .i64 ((kAt ns n 0 : Nat) : Int)) ∧ (w7.alloc (.cells #[.string (mk (G k))] 9)).cell? ⟨w1.heap.size, 6, none⟩ = some (.slice (some xk) 1 cap) ∧ (w7.alloc (.cells #[.string (mk (G k))] 9)).cell? xk = some (.int .i64 kk.layout) ∧ (w7.alloc (.cells #[.string (mk (G k))] 9)).cell? { block := xk.block, off := xk.off + 1 } = some (.int .i64 kk.offset) ∧ (w7.alloc (.cells #[.string (mk (G k))] 9)).cell? { block := xk.block, off := xk.off + 2 } = some (.int .i64 kk.length) ∧ (w7.alloc (.cells #[.string (mk (G k))] 9)).cell? { block := xk.block, off := xk.off + 3 } = some (.string kk.valid) ∧ (w7.alloc (.cells #[.string (mk (G k))] 9)).cell? { block := xk.block, off := xk.off + 4 } = some (.string kk.ends) ∧ (w7.alloc (.cells #[.string (mk (G k))] 9)).cell? { block := xk.block, off := xk.off + 5 } = some (.string kk.data) ∧ (w7.alloc (.cells #[.string (mk (G k))] 9)).cell? { block := xk.block, off := xk.off + 6 } = some (.slice ok kk.kids.length ck)) := KLA.out _ B8.out
      refine hK.out _ _ K8.out (fun h2 => ?_)
      clear hK K
      try simp only [Act.put, List.setIfInBounds_toArray, List.set_cons_zero, List.set_cons_succ]
      refine wpAnyH_ready (rs := [12]) (by kernel_rfl) (by simp) ?_
      refine AllReadyH.cons rfl (fun K hK => ?_) AllReadyH.nil
      obtain ⟨o9, c9, w9, hr9, hown9, b9⟩ := append_text HO7.out B7.out.size (by omega) (mk (G k)) rfl
      have B9 : Hid (Below w5.heap.size w5 w9) := B7.out.trans b9
      have K9 : Hid (w9.cell? ⟨w.heap.size, 0, none⟩ = some (.slice (some x) ns.length capT) ∧ w9.cell? ⟨g, 0, none⟩ = some (.int .i64 ((kAt ns n 0 : Nat) : Int)) ∧ w9.cell? ⟨w1.heap.size, 6, none⟩ = some (.slice (some xk) 1 cap) ∧ w9.cell? xk = some (.int .i64 kk.layout) ∧ w9.cell? { block := xk.block, off := xk.off + 1 } = some (.int .i64 kk.offset) ∧ w9.cell? { block := xk.block, off := xk.off + 2 } = some (.int .i64 kk.length) ∧ w9.cell? { block := xk.block, off := xk.off + 3 } = some (.string kk.valid) ∧ w9.cell? { block := xk.block, off := xk.off + 4 } = some (.string kk.ends) ∧ w9.cell? { block := xk.block, off := xk.off + 5 } = some (.string kk.data) ∧ w9.cell? { block := xk.block, off := xk.off + 6 } = some (.slice ok kk.kids.length ck)) := KLA.out _ B9.out
      have HO9 : Hid (w9.ownsRow w5.heap.size 9 1 (.slice o9 (ss.length + 1) c9) (ss.length + 1) (Texts.cellsT (ss ++ [mk (G k)]))) := hown9
      clear hown9 b9
      rw [if_pos (by rfl)]
      refine upon_append (s := .tmp 129) (x := .tmp 140) rfl rfl rfl rfl hr9 ?_
      refine hK.out _ _ K9.out (fun h3 => ?_)
      clear hK K
      try simp only [Act.put, List.setIfInBounds_toArray, List.set_cons_zero, List.set_cons_succ]
      refine take_at (i := 13) (d := some 12) (v := ?v13) rfl rfl (by kernel_rfl) (by kernel_rfl) (by kernel_rfl) (fun _ _ _ h => h) (Or.inl ⟨by rfl, ?y13⟩) h3 ?r13
      case y13 => (intro w' hSw; (try dsimp only at hSw); go_simp; try with_reducible rfl)
      try simp only [Act.put, List.setIfInBounds_toArray, List.set_cons_zero, List.set_cons_succ]
      refine wpAnyH_done (by kernel_rfl) ?_ _
      refine NoPanic.normal ?_
      have HSN : Hid (ss ++ [mk (G k)] = told G (k + 1) ∧ (ss ++ [mk (G k)]).length = ss.length + 1) := ⟨by rw [told_snoc, HSS.out], by simp⟩
      clear h0 h1 h2 h3 KR K7 K8 K9 HM2
      generalize ss ++ [mk (G k)] = ss2 at *
      rw [← HSN.out.2] at HO9
      rw [← HSN.out.2]
      go_wp2
      go_roundw
      case rel => exact ⟨k + 1, ss2, o9, c9, by omega, by go_num, rfl, HSN.out.1, HO9.out, B9.out⟩
      case measure => simp [intOf]; omega
    · have hkE : k = E2 - E := by omega
      have HTX : Hid (Texts.IsTx wr ov ss) := Texts.own_texts HOWN.out
      have HPR2 : Hid (plainRow (rowF ns f) ns n a P = listM (ss.map bl)) := by
        unfold Hid
        rw [HPR.out, HSS.out, told_bl, hkE]
      have hfl : (flat ss).length ≤ 140737488355328 := by
        have := told_flat G 11264 k (fun j hj => by rw [← HG.out j]; exact HSH.out _ (by omega))
        rw [← HSS.out] at this
        omega
      have hs64 : ss.length ≤ 140737488355328 := by omega
      clear hkE hsl
      go_wp2_with fail
      refine (listR ov cv ss hfl hs64 wr HTX.out).mono ?_
      rintro e w6 ⟨rfl, rfl⟩
      go_wp2
      go_ret
      exact ⟨ret_str (by rw [HV.out, HPR2.out]; rfl), bel2 B5.out BL.out⟩
end Go.Proofs.YtcpfhfdgfcilaaaGreatDoor.Arr
set_option linter.unusedVariables false
set_option linter.unusedSimpArgs false
namespace Go.Proofs.YtcpfhfdgfcilaaaGreatDoor.Arr
open Go.ChangeShapes Go.WideShapes Go.ChangeAt Go.RowKit
open Tree Val

theorem at_struct {ns : List Nd} {n f : Nat} {a : Arr} (hh : Head ns n a) (hp : plainB (mayF ns f) ns n a = true) (hk : (nd ns n).kind = 4) {row : Nat} (hr : (row : Int) < a.length) : a.kids.length = (kids ns n).length ∧ ∀ i, i < (kids ns n).length → mayF ns f (kAt ns n i) (kidAt a i) = true ∧ ((row + a.offset.toNat : Nat) : Int) < (kidAt a i).length := by
  have hl := struct_of hk hp
  unfold plainB at hp
  rw [if_neg (by omega), if_neg (by omega), if_neg (by omega), if_neg (by omega)] at hp
  simp only [Bool.and_eq_true, decide_eq_true_eq] at hp
  have ho := hh.off
  refine ⟨hp.1.2, fun i hi => ⟨hl.may i hi, ?_⟩⟩
  have := hl.rows i hi
  unfold rowsOf at this
  omega
set_option maxRecDepth 20000 in
set_option maxHeartbeats 3200000 in
theorem rowStruct (B f : Nat) (ih : Hid (RowC B f)) (ns : List Nd) (oT : Option Addr) (capT n : Nat) (a : Arr) (o : Option Addr) (cap row : Nat) (w : World) (hn : n < ns.length) (hm : may ns = true) (hf : mayF ns (f + 1) n a = true) (hr : (row : Int) < a.length) (ht : IsT w oT ns) (hH : Hid (HoldsF B 96 w (f + 1) (a.cells o cap) a)) (hT : there a (row + a.offset.toNat) = true) (hL0 : a.layout = 0) (hk : (nd ns n).kind = 4) :
    Calls Tryz.prog 63 #[.agg #[.slice oT ns.length capT], .int .i64 (n : Int), a.val o cap, .int .i64 (row : Int)] w fun r w' => r = .returned (.string (mk (rowF ns (f + 1) n a row))) ∧ Below w.heap.size w w' := by
  obtain ⟨w1, e1, s1, c1, b1⟩ := boxed w (.slice oT ns.length capT) 24
  obtain ⟨w2, e2, x2, b2, z2⟩ := box7 w1 a o cap
  have hC := mayF_cases hf
  have hoff := hC.1.off
  have hrows := hC.1.rows
  have hlen := hC.1.len
  have hPE : (row : Int) + a.offset = ((row + a.offset.toNat : Nat) : Int) := by omega
  have hP64 : row + a.offset.toNat ≤ 64 := by omega
  have HTH : Hid (∀ v, Calls Tryz.prog 56 #[a.val o cap, .int .i64 ((row + a.offset.toNat : Nat) : Int)] v fun e w' => e = .returned (.bool (there a (row + a.offset.toNat))) ∧ Below v.heap.size v w') := fun v => refThere a o cap _ hC.1.valid (by
    rcases hC.1.null with c | c
    · exact .inl c
    · have := c.2; unfold rowsOf at this; right; omega) v
  have B2 : Hid (Below w.heap.size w w2) := bel2 b1 b2
  have cT := cell_later b2 c1
  have HCT : Hid (w2.cell? ⟨w.heap.size, 0, none⟩ = some (.slice oT ns.length capT)) := cT
  have X2 : Hid (Bx w2 w1.heap.size a o cap) := x2
  have HT : Hid (IsT w oT ns) := ht
  have HRW := rowF_succ ns f n a row
  have hL : a.layout = 0 := hL0
  have hpl : plainB (mayF ns f) ns n a = true := by
    rcases hC.2 with c | c
    · exact c.2
    · exact absurd hL c.1
  have HKS : Hid (∀ v, Below w.heap.size w v → Calls Tryz.prog 83 #[.agg #[.slice oT ns.length capT], .int .i64 (n : Int)] v fun r w' => ∃ o c, r = .returned (.tuple #[.slice o (kids ns n).length c, .int .i64 0]) ∧ w'.ownsRow v.heap.size 3 1 (.slice o (kids ns n).length c) (kids ns n).length (ints (kids ns n)) ∧ Below v.heap.size v w') := fun v hv => by
    have hB : hasB ns (n : Int) = true := by unfold hasB; rw [hm, decide_eq_true (by omega)]; rfl
    have hKA : kidsA ns (n : Int) = kids ns n := by unfold kidsA; rw [if_pos hB]
    have := kidsR oT capT ns (n : Int) v (HT.out.later hv)
    rw [hB, hKA] at this
    exact this
  obtain ⟨x, rfl, hl⟩ := ht.some (by omega)
  have HLI : Hid (Lies w x ns) := hl
  have HKD : Hid ((nd ns n).kind = 4) := hk
  have j0 : (0 : Int) ≤ (n : Int) := Int.natCast_nonneg _
  have j1 : (n : Int) < (ns.length : Int) := by omega
  have HLY : Hid (a.layout = 0) := hL
  have HV : Hid (rowF ns (f + 1) n a row = plainRow (rowF ns f) ns n a (row + a.offset.toNat)) := by unfold Hid; rw [HRW, hT, if_neg (by simp), if_pos hL]
  obtain ⟨h8, h9⟩ := at_struct hC.1 hpl hk hr
  have HPR : Hid (plainRow (rowF ns f) ns n a (row + a.offset.toNat) = structM ((List.range (kids ns n).length).map fun i => rowF ns f (kAt ns n i) (kidAt a i) (row + a.offset.toNat))) := by unfold Hid plainRow; rw [if_neg (by omega), if_neg (by omega), if_neg (by omega), if_neg (by omega)]
  have hk8 : (kids ns n).length ≤ 8 := Nat.le_trans (length_kidsTo ns n ns.length) (may_of hm).most
  have HKK : Hid (∀ i, i < (kids ns n).length → kAt ns n i < ns.length) := fun i hi => kids_lt n i hi
  have HKID : Hid (∀ i, i < (kids ns n).length → ∃ xk ok ck, o = some xk ∧ Kid w (xk.add (i * 7)) (kidAt a i) ok ck ∧ (∀ v, Below w.heap.size w v → Calls Tryz.prog 63 #[.agg #[.slice (some x) ns.length capT], .int .i64 ((kAt ns n i : Nat) : Int), (kidAt a i).val ok ck, .int .i64 ((row + a.offset.toNat : Nat) : Int)] v fun e w' => e = .returned (.string (mk (rowF ns f (kAt ns n i) (kidAt a i) (row + a.offset.toNat)))) ∧ Below v.heap.size v w')) := fun i hi => by
    obtain ⟨xk, ok, ck, e, hkid, hkh⟩ := hH.out.kid (i := i) (by omega)
    exact ⟨xk, ok, ck, e, hkid, fun v hv => ih.out ns (some x) capT (kAt ns n i) (kidAt a i) ok ck _ v (HKK.out i hi) hm (h9 i hi).1 (h9 i hi).2 (HT.out.later hv) (hkh.later hv)⟩
  have HSH : Hid (∀ i, i < (kids ns n).length → (rowF ns f (kAt ns n i) (kidAt a i) (row + a.offset.toNat)).length ≤ 11264) := fun i hi => row_short (may_of hm) (HKK.out i hi) (h9 i hi).1 (h9 i hi).2
  have HK1 : Hid (a.kids.length = (kids ns n).length) := h8
  clear h8 h9 ih
  clear hL hL0 HRW hpl hl hk
  generalize rowF ns (f + 1) n a row = V at *
  have d0 := x2.c0
  have d1 := x2.c1
  have d2 := x2.c2
  have d3 := x2.c3
  have d4 := x2.c4
  have d5 := x2.c5
  have d6 := x2.c6
  have hrow64 : row ≤ 64 := by omega
  have ho64 : a.offset ≤ 64 := by omega
  clear s1 c1 b1 b2 x2 z2 ht hf hC hH hrows hlen hr
  unfold Arr.val at HTH ⊢
  generalize there a (row + a.offset.toNat) = T at *
  generalize hPP : row + a.offset.toNat = P at *
  clear hPP
  subst hT
  go_enter Tryz.func63, Tryz.ntmps63
  go_wp2_with fail
  refine (HTH.out w2).mono ?_
  rintro e w3 ⟨rfl, b3⟩
  have B3 : Hid (Below w.heap.size w w3) := bel2 B2.out b3
  have X3 : Hid (Bx w3 w1.heap.size a o cap) := X2.out.later b3
  have HC3 : Hid (w3.cell? ⟨w.heap.size, 0, none⟩ = some (.slice (some x) ns.length capT)) := cell_later b3 HCT.out
  clear b3 e1 e2 cT d0 d1 d2 d3 d4 d5 d6
  have d0 := X3.out.c0
  rw [HLY.out] at d0
  have c3 := HC3.out
  go_wp2_with fail
  refine (HKS.out w3 B3.out).mono ?_
  rintro e w4 ⟨oK, cK, rfl, hown, b4⟩
  have B4 : Hid (Below w.heap.size w w4) := bel2 B3.out b4
  have X4 : Hid (Bx w4 w1.heap.size a o cap) := X3.out.later b4
  have HC4 : Hid (w4.cell? ⟨w.heap.size, 0, none⟩ = some (.slice (some x) ns.length capT)) := cell_later b4 HC3.out
  have HIK : Hid (IsI w4 w3.heap.size oK (kids ns n)) := own_ints hown
  have HL4 : Hid (Lies w4 x ns) := HLI.out.later B4.out
  clear d0 c3 b4 hown
  have c4 := HC4.out
  have n0 := HL4.out.kind' n hn
  rw [HKD.out] at n0
  generalize hG : (fun i => rowF ns f (kAt ns n i) (kidAt a i) P) = G at *
  have HG : Hid (∀ j, rowF ns f (kAt ns n j) (kidAt a j) P = G j) := fun j => by rw [← hG]
  have HMK : Hid ((kids ns n).length = (kids ns n).length) := rfl
  generalize hM : (kids ns n).length = M at *
  replace HMK : Hid ((kids ns n).length = M) := hM
  clear hG hM
  go_wp2_with fail
  go_loopw [12, 18] (fun v t wr => ∃ (k : Nat) (ss : List ByteArray) (ov : Option Addr) (cv : Nat), k ≤ M ∧ t = .int .i64 (k : Int) ∧ v = .slice ov ss.length cv ∧ ss = told G k ∧ wr.ownsRow w4.heap.size 9 1 (.slice ov ss.length cv) ss.length (Texts.cellsT ss) ∧ Below w4.heap.size w4 wr) (fun _ t _ => M - (intOf t).toNat)
  case atStart => exact ⟨0, [], none, 0, Nat.zero_le _, rfl, by rw [List.length_nil], by simp [told], World.ownsRow_nil _ _ _ _, Below.refl _ _⟩
  case round =>
    obtain ⟨k, ss, ov, cv, hk, rfl, rfl, hss, hown, hbl⟩ := hrel
    have HOWN : Hid (wr.ownsRow w4.heap.size 9 1 (.slice ov ss.length cv) ss.length (Texts.cellsT ss)) := hown
    have HSS : Hid (ss = told G k) := hss
    have BL : Hid (Below w4.heap.size w4 wr) := hbl
    have hsl : ss.length = k := by rw [hss, length_told]
    clear hown hss hbl c4 n0
    by_cases hlt : k < M
    · obtain ⟨xk, ok, ck, rfl, hkid, hcall⟩ := HKID.out k hlt
      have HKI : Hid (Kid w4 (xk.add (k * 7)) (kidAt a k) ok ck) := hkid.later B4.out
      rcases HIK.out with hI | ⟨g, rfl, _, hrowK⟩
      · exact absurd hlt (by rw [← HMK.out, hI]; exact Nat.not_lt_zero _)
      have hg := hrowK.cell k (by rw [HMK.out]; exact hlt)
      have KLA : Hid (∀ W', Below w4.heap.size w4 W' → (W'.cell? ⟨w.heap.size, 0, none⟩ = some (.slice (some x) ns.length capT) ∧ W'.cell? ⟨g, k, none⟩ = some (.int .i64 ((kAt ns n k : Nat) : Int)) ∧ W'.cell? ⟨w1.heap.size, 6, none⟩ = some (.slice (some xk) M cap) ∧ W'.cell? (xk.add (k * 7)) = some (.int .i64 (kidAt a k).layout) ∧ W'.cell? { block := (xk.add (k * 7)).block, off := (xk.add (k * 7)).off + 1 } = some (.int .i64 (kidAt a k).offset) ∧ W'.cell? { block := (xk.add (k * 7)).block, off := (xk.add (k * 7)).off + 2 } = some (.int .i64 (kidAt a k).length) ∧ W'.cell? { block := (xk.add (k * 7)).block, off := (xk.add (k * 7)).off + 3 } = some (.string (kidAt a k).valid) ∧ W'.cell? { block := (xk.add (k * 7)).block, off := (xk.add (k * 7)).off + 4 } = some (.string (kidAt a k).ends) ∧ W'.cell? { block := (xk.add (k * 7)).block, off := (xk.add (k * 7)).off + 5 } = some (.string (kidAt a k).data) ∧ W'.cell? { block := (xk.add (k * 7)).block, off := (xk.add (k * 7)).off + 6 } = some (.slice ok (kidAt a k).kids.length ck))) := by
        intro W' hb
        have d6 := X4.out.c6
        rw [HK1.out] at d6
        have KK := HKI.out.later hb
        exact ⟨cell_later hb HC4.out, cell_later hb hg, cell_later hb d6, KK.k0, KK.k1, KK.k2, KK.k3, KK.k4, KK.k5, KK.k6⟩
      have HM2 : Hid (∀ v, Below w.heap.size w v → Calls Tryz.prog 63 #[.agg #[.slice (some x) ns.length capT], .int .i64 ((kAt ns n k : Nat) : Int), (kidAt a k).val ok ck, .int .i64 ((P : Nat) : Int)] v fun e w' => e = .returned (.string (mk (G k))) ∧ Below v.heap.size v w') := fun v hv => by
        rw [← HG.out k]
        exact hcall v hv
      have BLD : Hid (Below w4.heap.size w4 wr.drew) := bel2 BL.out (drewN_below wr 1)
      have BRD : Hid (Below w.heap.size w wr.drew) := bel2 B4.out BLD.out
      have HSL : Hid (ss.length = k) := hsl
      have hs64 : ss.length ≤ 64 := by omega
      have i0 : (0 : Int) ≤ (k : Int) := Int.natCast_nonneg _
      have i1 : (k : Int) < ((M : Nat) : Int) := by omega
      unfold Arr.val at HM2
      clear hsl hcall hkid hg hrowK
      generalize kidAt a k = kk at *
      generalize kAt ns n k = kn at *
      have KR : Hid (wr.drew.cell? ⟨w.heap.size, 0, none⟩ = some (.slice (some x) ns.length capT) ∧ wr.drew.cell? ⟨g, k, none⟩ = some (.int .i64 ((kn : Nat) : Int)) ∧ wr.drew.cell? ⟨w1.heap.size, 6, none⟩ = some (.slice (some xk) M cap) ∧ wr.drew.cell? (xk.add (k * 7)) = some (.int .i64 kk.layout) ∧ wr.drew.cell? { block := (xk.add (k * 7)).block, off := (xk.add (k * 7)).off + 1 } = some (.int .i64 kk.offset) ∧ wr.drew.cell? { block := (xk.add (k * 7)).block, off := (xk.add (k * 7)).off + 2 } = some (.int .i64 kk.length) ∧ wr.drew.cell? { block := (xk.add (k * 7)).block, off := (xk.add (k * 7)).off + 3 } = some (.string kk.valid) ∧ wr.drew.cell? { block := (xk.add (k * 7)).block, off := (xk.add (k * 7)).off + 4 } = some (.string kk.ends) ∧ wr.drew.cell? { block := (xk.add (k * 7)).block, off := (xk.add (k * 7)).off + 5 } = some (.string kk.data) ∧ wr.drew.cell? { block := (xk.add (k * 7)).block, off := (xk.add (k * 7)).off + 6 } = some (.slice ok kk.kids.length ck)) := KLA.out _ BLD.out
      go_wp2_with fail
      refine wp_region_noPanic ?_
      refine wp_region_held_drew (S := fun W : World => W.cell? ⟨w.heap.size, 0, none⟩ = some (.slice (some x) ns.length capT) ∧ W.cell? ⟨g, k, none⟩ = some (.int .i64 ((kn : Nat) : Int)) ∧ W.cell? ⟨w1.heap.size, 6, none⟩ = some (.slice (some xk) M cap) ∧ W.cell? (xk.add (k * 7)) = some (.int .i64 kk.layout) ∧ W.cell? { block := (xk.add (k * 7)).block, off := (xk.add (k * 7)).off + 1 } = some (.int .i64 kk.offset) ∧ W.cell? { block := (xk.add (k * 7)).block, off := (xk.add (k * 7)).off + 2 } = some (.int .i64 kk.length) ∧ W.cell? { block := (xk.add (k * 7)).block, off := (xk.add (k * 7)).off + 3 } = some (.string kk.valid) ∧ W.cell? { block := (xk.add (k * 7)).block, off := (xk.add (k * 7)).off + 4 } = some (.string kk.ends) ∧ W.cell? { block := (xk.add (k * 7)).block, off := (xk.add (k * 7)).off + 5 } = some (.string kk.data) ∧ W.cell? { block := (xk.add (k * 7)).block, off := (xk.add (k * 7)).off + 6 } = some (.slice ok kk.kids.length ck)) (by kernel_rfl) KR.out (fun h0 => ?_)
      refine take_at (i := 0) (d := some 150) (v := ?v0) rfl rfl (by kernel_rfl) (by kernel_rfl) (by kernel_rfl) (fun _ _ _ h => h) (Or.inl ⟨by rfl, ?y0⟩) h0 ?r0
      case y0 => (intro w' hSw; (try dsimp only at hSw); go_simp; try with_reducible rfl)
      try simp only [Act.put, List.setIfInBounds_toArray, List.set_cons_zero, List.set_cons_succ]
      refine take_at (i := 1) (d := some 151) (v := ?v1) rfl rfl (by kernel_rfl) (by kernel_rfl) (by kernel_rfl) (fun _ _ _ h => h) (Or.inl ⟨by rfl, ?y1⟩) h0 ?r1
      case y1 => (intro w' hSw; (try dsimp only at hSw); go_simp; try with_reducible rfl)
      try simp only [Act.put, List.setIfInBounds_toArray, List.set_cons_zero, List.set_cons_succ]
      refine take_at (i := 2) (d := some 152) (v := ?v2) rfl rfl (by kernel_rfl) (by kernel_rfl) (by kernel_rfl) (fun _ _ _ h => h) (Or.inl ⟨by rfl, ?y2⟩) h0 ?r2
      case y2 => (intro w' hSw; (try dsimp only at hSw); go_simp; try with_reducible rfl)
      try simp only [Act.put, List.setIfInBounds_toArray, List.set_cons_zero, List.set_cons_succ]
      refine take_at (i := 3) (d := some 153) (v := ?v3) rfl rfl (by kernel_rfl) (by kernel_rfl) (by kernel_rfl) (fun _ _ _ h => h) (Or.inl ⟨by rfl, ?y3⟩) h0 ?r3
      case y3 => (intro w' hSw; (try dsimp only at hSw); go_simp; try with_reducible rfl)
      try simp only [Act.put, List.setIfInBounds_toArray, List.set_cons_zero, List.set_cons_succ]
      refine take_at (i := 4) (d := some 154) (v := ?v4) rfl rfl (by kernel_rfl) (by kernel_rfl) (by kernel_rfl) (fun _ _ _ h => h) (Or.inl ⟨by rfl, ?y4⟩) h0 ?r4
      case y4 => (intro w' hSw; (try dsimp only at hSw); go_simp; try with_reducible rfl)
      try simp only [Act.put, List.setIfInBounds_toArray, List.set_cons_zero, List.set_cons_succ]
      refine take_at (i := 5) (d := some 155) (v := ?v5) rfl rfl (by kernel_rfl) (by kernel_rfl) (by kernel_rfl) (fun _ _ _ h => h) (Or.inl ⟨by rfl, ?y5⟩) h0 ?r5
      case y5 => (intro w' hSw; (try dsimp only at hSw); go_simp; try with_reducible rfl)
      try simp only [Act.put, List.setIfInBounds_toArray, List.set_cons_zero, List.set_cons_succ]
      refine take_at (i := 6) (d := some 156) (v := ?v6) rfl rfl (by kernel_rfl) (by kernel_rfl) (by kernel_rfl) (fun _ _ _ h => h) (Or.inl ⟨by rfl, ?y6⟩) h0 ?r6
      case y6 => (intro w' hSw; (try dsimp only at hSw); go_simp; try with_reducible rfl)
      try simp only [Act.put, List.setIfInBounds_toArray, List.set_cons_zero, List.set_cons_succ]
      refine take_at (i := 7) (d := some 157) (v := ?v7) rfl rfl (by kernel_rfl) (by kernel_rfl) (by kernel_rfl) (fun _ _ _ h => h) (Or.inl ⟨by rfl, ?y7⟩) h0 ?r7
      case y7 => (intro w' hSw; (try dsimp only at hSw); go_simp; try with_reducible rfl)
      try simp only [Act.put, List.setIfInBounds_toArray, List.set_cons_zero, List.set_cons_succ]
      refine take_at (i := 8) (d := some 158) (v := ?v8) rfl rfl (by kernel_rfl) (by kernel_rfl) (by kernel_rfl) (fun _ _ _ h => h) (Or.inl ⟨by rfl, ?y8⟩) h0 ?r8
      case y8 => (intro w' hSw; (try dsimp only at hSw); go_simp; try with_reducible rfl)
      try simp only [Act.put, List.setIfInBounds_toArray, List.set_cons_zero, List.set_cons_succ]
      refine take_at (i := 9) (d := some 159) (v := ?v9) rfl rfl (by kernel_rfl) (by kernel_rfl) (by kernel_rfl) (fun _ _ _ h => h) (Or.inl ⟨by rfl, ?y9⟩) h0 ?r9
      case y9 => (intro w' hSw; (try dsimp only at hSw); go_simp; try with_reducible rfl)
      try simp only [Act.put, List.setIfInBounds_toArray, List.set_cons_zero, List.set_cons_succ]
      refine take_at (i := 10) (d := some 160) (v := ?v10) rfl rfl (by kernel_rfl) (by kernel_rfl) (by kernel_rfl) (fun _ _ _ h => h) (Or.inl ⟨by rfl, ?y10⟩) h0 ?r10
      case y10 => (intro w' hSw; (try dsimp only at hSw); go_simp; try with_reducible rfl)
      try simp only [Act.put, List.setIfInBounds_toArray, List.set_cons_zero, List.set_cons_succ]
      refine take_at (i := 11) (d := some 161) (v := ?v11) rfl rfl (by kernel_rfl) (by kernel_rfl) (by kernel_rfl) (fun _ _ _ h => h) (Or.inl ⟨by rfl, ?y11⟩) h0 ?r11
      case y11 => (intro w' hSw; (try dsimp only at hSw); go_simp; try with_reducible rfl)
      try simp only [Act.put, List.setIfInBounds_toArray, List.set_cons_zero, List.set_cons_succ]
      refine wpAnyH_ready (rs := [12]) (by kernel_rfl) (by simp) ?_
      refine AllReadyH.cons rfl (fun K hK => ?_) AllReadyH.nil
      go_simp
      go_at_call 63
      refine (HM2.out _ BRD.out).mono ?_
      rintro e w7 ⟨rfl, b7⟩
      have B7 : Hid (Below w4.heap.size w4 w7) := bel2 BLD.out b7
      have K7 : Hid (w7.cell? ⟨w.heap.size, 0, none⟩ = some (.slice (some x) ns.length capT) ∧ w7.cell? ⟨g, k, none⟩ = some (.int .i64 ((kn : Nat) : Int)) ∧ w7.cell? ⟨w1.heap.size, 6, none⟩ = some (.slice (some xk) M cap) ∧ w7.cell? (xk.add (k * 7)) = some (.int .i64 kk.layout) ∧ w7.cell? { block := (xk.add (k * 7)).block, off := (xk.add (k * 7)).off + 1 } = some (.int .i64 kk.offset) ∧ w7.cell? { block := (xk.add (k * 7)).block, off := (xk.add (k * 7)).off + 2 } = some (.int .i64 kk.length) ∧ w7.cell? { block := (xk.add (k * 7)).block, off := (xk.add (k * 7)).off + 3 } = some (.string kk.valid) ∧ w7.cell? { block := (xk.add (k * 7)).block, off := (xk.add (k * 7)).off + 4 } = some (.string kk.ends) ∧ w7.cell? { block := (xk.add (k * 7)).block, off := (xk.add (k * 7)).off + 5 } = some (.string kk.data) ∧ w7.cell? { block := (xk.add (k * 7)).block, off := (xk.add (k * 7)).off + 6 } = some (.slice ok kk.kids.length ck)) := KLA.out _ B7.out
      have HO7 : Hid (w7.ownsRow w4.heap.size 9 1 (.slice ov ss.length cv) ss.length (Texts.cellsT ss)) := ownsRow_grown HOWN.out (bel2 (drewN_below wr 1) b7)
      clear b7
      refine hK.out _ _ K7.out (fun h1 => ?_)
      clear hK K
      try simp only [Act.put, List.setIfInBounds_toArray, List.set_cons_zero, List.set_cons_succ]
      refine wpAnyH_ready (rs := [13]) (by kernel_rfl) (by simp) ?_
      refine AllReadyH.cons rfl (fun K hK => ?_) AllReadyH.nil
      go_simp
      have B8 : Hid (Below w4.heap.size w4 (w7.alloc (.cells #[.string (mk (G k))] 9))) := B7.out.alloc B7.out.size _
      have K8 : Hid ((w7.alloc (.cells #[.string (mk (G k))] 9)).cell? ⟨w.heap.size, 0, none⟩ = some (.slice (some x) ns.length capT) ∧ (w7.alloc (.cells #[.string (mk (G k))] 9)).cell? ⟨g, k, none⟩ = some (.int .i64 ((kn : Nat) : Int)) ∧ (w7.alloc (.cells #[.string (mk (G k))] 9)).cell? ⟨w1.heap.size, 6, none⟩ = some (.slice (some xk) M cap) ∧ (w7.alloc (.cells #[.string (mk (G k))] 9)).cell? (xk.add (k * 7)) = some (.int .i64 kk.layout) ∧ (w7.alloc (.cells #[.string (mk (G k))] 9)).cell? { block := (xk.add (k * 7)).block, off := (xk.add (k * 7)).off + 1 } = some (.int .i64 kk.offset) ∧ (w7.alloc (.cells #[.string (mk (G k))] 9)).cell? { block := (xk.add (k * 7)).block, off := (xk.add (k * 7)).off + 2 } = some (.int .i64 kk.length) ∧ (w7.alloc (.cells #[.string (mk (G k))] 9)).cell? { block := (xk.add (k * 7)).block, off := (xk.add (k * 7)).off + 3 } = some (.string kk.valid) ∧ (w7.alloc (.cells #[.string (mk (G k))] 9)).cell? { block := (xk.add (k * 7)).block, off := (xk.add (k * 7)).off + 4 } = some (.string kk.ends) ∧ (w7.alloc (.cells #[.string (mk (G k))] 9)).cell? { block := (xk.add (k * 7)).block, off := (xk.add (k * 7)).off + 5 } = some (.string kk.data) ∧ (w7.alloc (.cells #[.string (mk (G k))] 9)).cell? { block := (xk.add (k * 7)).block, off := (xk.add (k * 7)).off + 6 } = some (.slice ok kk.kids.length ck)) := KLA.out _ B8.out
      refine hK.out _ _ K8.out (fun h2 => ?_)
      clear hK K
      try simp only [Act.put, List.setIfInBounds_toArray, List.set_cons_zero, List.set_cons_succ]
      refine wpAnyH_ready (rs := [14]) (by kernel_rfl) (by simp) ?_
      refine AllReadyH.cons rfl (fun K hK => ?_) AllReadyH.nil
      obtain ⟨o9, c9, w9, hr9, hown9, b9⟩ := append_text HO7.out B7.out.size (by omega) (mk (G k)) rfl
      have B9 : Hid (Below w4.heap.size w4 w9) := B7.out.trans b9
      have K9 : Hid (w9.cell? ⟨w.heap.size, 0, none⟩ = some (.slice (some x) ns.length capT) ∧ w9.cell? ⟨g, k, none⟩ = some (.int .i64 ((kn : Nat) : Int)) ∧ w9.cell? ⟨w1.heap.size, 6, none⟩ = some (.slice (some xk) M cap) ∧ w9.cell? (xk.add (k * 7)) = some (.int .i64 kk.layout) ∧ w9.cell? { block := (xk.add (k * 7)).block, off := (xk.add (k * 7)).off + 1 } = some (.int .i64 kk.offset) ∧ w9.cell? { block := (xk.add (k * 7)).block, off := (xk.add (k * 7)).off + 2 } = some (.int .i64 kk.length) ∧ w9.cell? { block := (xk.add (k * 7)).block, off := (xk.add (k * 7)).off + 3 } = some (.string kk.valid) ∧ w9.cell? { block := (xk.add (k * 7)).block, off := (xk.add (k * 7)).off + 4 } = some (.string kk.ends) ∧ w9.cell? { block := (xk.add (k * 7)).block, off := (xk.add (k * 7)).off + 5 } = some (.string kk.data) ∧ w9.cell? { block := (xk.add (k * 7)).block, off := (xk.add (k * 7)).off + 6 } = some (.slice ok kk.kids.length ck)) := KLA.out _ B9.out
      have HO9 : Hid (w9.ownsRow w4.heap.size 9 1 (.slice o9 (ss.length + 1) c9) (ss.length + 1) (Texts.cellsT (ss ++ [mk (G k)]))) := hown9
      clear hown9 b9
      rw [if_pos (by rfl)]
      refine upon_append (s := .tmp 150) (x := .tmp 163) rfl rfl rfl rfl hr9 ?_
      refine hK.out _ _ K9.out (fun h3 => ?_)
      clear hK K
      try simp only [Act.put, List.setIfInBounds_toArray, List.set_cons_zero, List.set_cons_succ]
      refine take_at (i := 15) (d := some 12) (v := ?v15) rfl rfl (by kernel_rfl) (by kernel_rfl) (by kernel_rfl) (fun _ _ _ h => h) (Or.inl ⟨by rfl, ?y15⟩) h3 ?r15
      case y15 => (intro w' hSw; (try dsimp only at hSw); go_simp; try with_reducible rfl)
      try simp only [Act.put, List.setIfInBounds_toArray, List.set_cons_zero, List.set_cons_succ]
      refine wpAnyH_done (by kernel_rfl) ?_ _
      refine NoPanic.normal ?_
      have HSN : Hid (ss ++ [mk (G k)] = told G (k + 1) ∧ (ss ++ [mk (G k)]).length = ss.length + 1) := ⟨by rw [told_snoc, HSS.out], by simp⟩
      clear h0 h1 h2 h3 KR K7 K8 K9 HM2
      generalize ss ++ [mk (G k)] = ss2 at *
      rw [← HSN.out.2] at HO9
      rw [← HSN.out.2]
      go_wp2
      go_roundw
      case rel => exact ⟨k + 1, ss2, o9, c9, by omega, by go_num, rfl, HSN.out.1, HO9.out, B9.out⟩
      case measure => simp [intOf]; omega
    · have hkE : k = M := by omega
      have HTX : Hid (Texts.IsTx wr ov ss) := Texts.own_texts HOWN.out
      have HPR2 : Hid (plainRow (rowF ns f) ns n a P = structM (ss.map bl)) := by
        unfold Hid
        rw [HPR.out, HSS.out, told_bl, hkE]
      have hfl : (flat ss).length ≤ 140737488355328 := by
        have := told_flat G 11264 k (fun j hj => by rw [← HG.out j]; exact HSH.out _ (by omega))
        rw [← HSS.out] at this
        omega
      have hs64 : ss.length ≤ 140737488355328 := by omega
      clear hsl
      subst hkE
      go_wp2_with fail
      refine (structR ov cv ss hfl hs64 wr HTX.out).mono ?_
      rintro e w6 ⟨rfl, rfl⟩
      go_wp2
      go_ret
      exact ⟨ret_str (by rw [HV.out, HPR2.out]; rfl), bel2 B4.out BL.out⟩

/-- The document's value of every row. -/
theorem rowA (B : Nat) : ∀ f, RowC B f := by
  intro f
  induction f with
  | zero => intro ns oT capT n a o cap row w hn hm hf; cases hf
  | succ f ih =>
    intro ns oT capT n a o cap row w hn hm hf hr ht hH
    cases hT : there a (row + a.offset.toNat)
    · exact rowNull B f ns oT capT n a o cap row w hn hm hf hr ht hH hT
    have hC := mayF_cases hf
    rcases hC.2 with c | c
    · rcases kinds (may_of hm) hn with k | k | k | k | k
      · exact rowInt B f ns oT capT n a o cap row w hn hm hf hr ht hH hT c.1 k
      · exact rowBool B f ns oT capT n a o cap row w hn hm hf hr ht hH hT c.1 k
      · exact rowBytes B f ns oT capT n a o cap row w hn hm hf hr ht hH hT c.1 k
      · exact rowList B f ih ns oT capT n a o cap row w hn hm hf hr ht hH hT c.1 k
      · exact rowStruct B f ih ns oT capT n a o cap row w hn hm hf hr ht hH hT c.1 k
    · rcases c.2.2.2.2.2 with d | d
      · exact rowDict B f ih ns oT capT n a o cap row w hn hm hf hr ht hH hT d.1
      · exact rowRun B f ih ns oT capT n a o cap row w hn hm hf hr ht hH hT d.1
end Go.Proofs.YtcpfhfdgfcilaaaGreatDoor.Arr
namespace Go.Proofs.YtcpfhfdgfcilaaaGreatDoor.Arr
open Go.ChangeShapes Go.WideShapes Go.ChangeAt Go.RowKit
open Tree Val

/-- What all rows are, of any node; with it the error's number. -/
def valsA (ns : List Nd) (at' : Int) (f : Nat) (a : Arr) : List ByteArray := if mayZ ns at' f a = true then told (rowF ns f at'.toNat a) a.length.toNat else []
def valsE (ns : List Nd) (at' : Int) (f : Nat) (a : Arr) : Int := if mayZ ns at' f a = true then 0 else 900
theorem may_head {ns : List Nd} {x : Int} {f : Nat} {a : Arr} (h : mayZ ns x (f + 1) a = true) : ∃ n : Nat, x = (n : Int) ∧ n < ns.length ∧ may ns = true ∧ mayF ns (f + 1) n a = true ∧ Head ns n a := by
  unfold mayZ at h
  rw [Bool.and_eq_true] at h
  obtain ⟨n, rfl, hn, hM⟩ := has_of h.1
  have hm : may ns = true := by have := h.1; unfold hasB at this; rw [Bool.and_eq_true] at this; exact this.2
  exact ⟨n, rfl, hn, hm, h.2, (mayF_cases h.2).1⟩
set_option maxRecDepth 20000 in
set_option maxHeartbeats 3200000 in
theorem valuesA (B f : Nat) (ns : List Nd) (oT : Option Addr) (capT : Nat) (at' : Int) (a : Arr) (o : Option Addr) (cap : Nat) (w : World) (ht : IsT w oT ns) (hH : Hid (HoldsF B 96 w (f + 1) (a.cells o cap) a)) :
    Calls Tryz.prog 32 #[.agg #[.slice oT ns.length capT], .int .i64 at', a.val o cap] w fun r w' => ∃ ov cv, r = .returned (.tuple #[.slice ov (valsA ns at' (f + 1) a).length cv, .int .i64 (valsE ns at' (f + 1) a)]) ∧ w'.ownsRow w.heap.size 9 1 (.slice ov (valsA ns at' (f + 1) a).length cv) (valsA ns at' (f + 1) a).length (Texts.cellsT (valsA ns at' (f + 1) a)) ∧ Below w.heap.size w w' := by
  obtain ⟨w1, e1, s1, c1, b1⟩ := boxed w (.slice oT ns.length capT) 24
  obtain ⟨w2, e2, x2, b2, z2⟩ := box7 w1 a o cap
  obtain ⟨i9, hi, hz0, hz1, hz2⟩ := info_parts info9
  have B2 : Hid (Below w.heap.size w w2) := bel2 b1 b2
  have HCT : Hid (w2.cell? ⟨w.heap.size, 0, none⟩ = some (.slice oT ns.length capT)) := cell_later b2 c1
  have X2 : Hid (Bx w2 w1.heap.size a o cap) := x2
  have HT : Hid (IsT w oT ns) := ht
  have HR : Hid (∀ v, Below w.heap.size w v → Calls Tryz.prog 23 #[.agg #[.slice oT ns.length capT], .int .i64 at', a.val o cap] v fun r w' => r = .returned (.bool (mayZ ns at' (f + 1) a)) ∧ Below v.heap.size v w') := fun v hv => refA B 96 (f + 1) ns oT capT at' a o cap v (ht.later hv) (hH.out.later hv)
  have HVA : Hid (valsA ns at' (f + 1) a = if mayZ ns at' (f + 1) a = true then told (rowF ns (f + 1) at'.toNat a) a.length.toNat else []) := rfl
  have HVE : Hid (valsE ns at' (f + 1) a = if mayZ ns at' (f + 1) a = true then 0 else 900) := rfl
  have HZ : Hid (mayZ ns at' (f + 1) a = true → ∃ n : Nat, at' = (n : Int) ∧ n < ns.length ∧ may ns = true ∧ mayF ns (f + 1) n a = true ∧ Head ns n a) := may_head
  generalize valsA ns at' (f + 1) a = vs at *
  generalize valsE ns at' (f + 1) a = E at *
  generalize mayZ ns at' (f + 1) a = M at *
  have cT := HCT.out
  have d0 := X2.out.c0
  have d1 := X2.out.c1
  have d2 := X2.out.c2
  have d3 := X2.out.c3
  have d4 := X2.out.c4
  have d5 := X2.out.c5
  have d6 := X2.out.c6
  unfold Arr.val at HR ⊢
  clear s1 c1 b1 b2 x2 z2 ht
  go_enter Tryz.func32, Tryz.ntmps32
  go_wp2_with fail
  refine (HR.out w2 B2.out).mono ?_
  rintro e w3 ⟨rfl, b3⟩
  have B3 : Hid (Below w.heap.size w w3) := bel2 B2.out b3
  have X3 : Hid (Bx w3 w1.heap.size a o cap) := X2.out.later b3
  have HC3 : Hid (w3.cell? ⟨w.heap.size, 0, none⟩ = some (.slice oT ns.length capT)) := cell_later b3 HCT.out
  clear b3 e1 e2 cT d0 d1 d2 d3 d4 d5 d6
  cases M
  · have v1 := HVA.out
    have v2 := HVE.out
    rw [if_neg (by simp)] at v1 v2
    subst v1 v2
    go_wp2
    go_ret2
    exact ⟨none, 0, rfl, World.ownsRow_nil _ _ _ _, B3.out⟩
  · obtain ⟨n, rfl, hn, hm, hF, hH1⟩ := HZ.out rfl
    have v1 := HVA.out
    have v2 := HVE.out
    rw [if_pos rfl] at v1 v2
    rw [Int.toNat_natCast] at v1
    have hq0 := hH1.len
    have hq1 := hH1.rows
    have hq2 := hH1.off
    obtain ⟨L, hL⟩ := Int.eq_ofNat_of_zero_le hq0
    have HLN : Hid (a.length = (L : Int)) := hL
    have hL64 : L ≤ 64 := by omega
    have HCALL : Hid (∀ v (k : Nat), Below w.heap.size w v → k < L → Calls Tryz.prog 63 #[.agg #[.slice oT ns.length capT], .int .i64 (n : Int), a.val o cap, .int .i64 (k : Int)] v fun e w' => e = .returned (.string (mk (rowF ns (f + 1) n a k))) ∧ Below v.heap.size v w') := fun v k hv hk => rowA B (f + 1) ns oT capT n a o cap k v hn hm hF (by omega) (HT.out.later hv) (hH.out.later hv)
    rw [hL, Int.toNat_natCast] at v1
    have HV1 : Hid (vs = told (rowF ns (f + 1) n a) L) := v1
    subst v2
    clear v1
    generalize rowF ns (f + 1) n a = G at *
    unfold Arr.val at HCALL
    clear hH hF hH1 hm HZ HR HVA HVE hq0 hq1 hq2 hL
    go_wp2_with fail
    go_loopw [8, 9] (fun v t wr => ∃ (k : Nat) (ss : List ByteArray) (ov : Option Addr) (cv : Nat), k ≤ L ∧ t = .int .i64 (k : Int) ∧ v = .slice ov ss.length cv ∧ ss = told G k ∧ wr.ownsRow w3.heap.size 9 1 (.slice ov ss.length cv) ss.length (Texts.cellsT ss) ∧ Below w3.heap.size w3 wr) (fun _ t _ => L - (intOf t).toNat)
    case atStart => exact ⟨0, [], none, 0, Nat.zero_le _, rfl, by rw [List.length_nil], by simp [told], World.ownsRow_nil _ _ _ _, Below.refl _ _⟩
    case round =>
      obtain ⟨k, ss, ov, cv, hk, rfl, rfl, hss, hown, hbl⟩ := hrel
      have HOWN : Hid (wr.ownsRow w3.heap.size 9 1 (.slice ov ss.length cv) ss.length (Texts.cellsT ss)) := hown
      have HSS : Hid (ss = told G k) := hss
      have BW' : Hid (Below w.heap.size w wr) := bel2 B3.out hbl
      have XR : Hid (Bx wr w1.heap.size a o cap) := X3.out.later hbl
      have HCR : Hid (wr.cell? ⟨w.heap.size, 0, none⟩ = some (.slice oT ns.length capT)) := cell_later hbl HC3.out
      have BL : Hid (Below w3.heap.size w3 wr) := hbl
      have HSL : Hid (ss.length = k) := by unfold Hid; rw [hss, length_told]
      clear hown hss hbl
      have d0 := XR.out.c0
      have d1 := XR.out.c1
      have d2 := XR.out.c2
      have d3 := XR.out.c3
      have d4 := XR.out.c4
      have d5 := XR.out.c5
      have d6 := XR.out.c6
      have cT := HCR.out
      rw [HLN.out] at d2
      by_cases hlt : k < L
      · have HC2 : Hid (Calls Tryz.prog 63 #[.agg #[.slice oT ns.length capT], .int .i64 (n : Int), .agg #[.int .i64 a.layout, .int .i64 a.offset, .int .i64 (L : Int), .string a.valid, .string a.ends, .string a.data, .slice o a.kids.length cap], .int .i64 (k : Int)] wr fun e w' => e = .returned (.string (mk (G k))) ∧ Below wr.heap.size wr w') := by
          have := HCALL.out wr k BW'.out hlt
          rw [HLN.out] at this
          exact this
        go_wp2_with fail
        refine HC2.out.mono ?_
        rintro e w5 ⟨rfl, b5⟩
        have hown5 : w5.ownsRow w3.heap.size 9 1 (.slice ov ss.length cv) ss.length (Texts.cellsT ss) := ownsRow_grown HOWN.out b5
        have hbl5 : Below w.heap.size w w5 := bel2 BW'.out b5
        have HB5 : Hid (Below w3.heap.size w3 w5) := bel2 BL.out b5
        have hz5 := HB5.out.size
        have hz3 := B3.out.size
        have hs64 : ss.length ≤ 64 := by have := HSL.out; omega
        clear d0 d1 d2 d3 d4 d5 d6 cT b5
        go_wp2_with (at_builtin; refine wpList_append_own _ rfl (.tmp 21) (.tmp 27) 29 rfl w3.heap.size 9 i9 (.string ⟨#[]⟩) 1 16 Tryz.underlying29 hi hz0 hz1 hz2 rfl (by decide) _ ss.length _ rfl (hown5.alloc _) ⟨w5.heap.size, 0, none⟩ 1 1 [.string (mk (G k))] rfl rfl ?c1 ?c2 ?c3 ?c4 ?c5 ?_)
        case c1 =>
          intro j u hj
          match j, hj with
          | 0, hj => simp at hj; subst hj; simp [Addr.add]
        case c2 => intro u hu; simp at hu; subst hu; rfl
        case c3 => unfold maxLen; omega
        case c4 => omega
        case c5 => simp; omega
        intro u6 w6 hown6 hgrow _
        have HB6 : Hid (Below w3.heap.size w3 w6) := (HB5.out.alloc hz5 _).grown hgrow (by simp; omega) (fun j hj => (hown5.lt j hj).1)
        obtain ⟨o6, c6, rfl⟩ := ownsRow_len hown6
        have HO6 : Hid (w6.ownsRow w3.heap.size 9 1 (.slice o6 (ss.length + 1) c6) (ss.length + 1) (Texts.cellsT (ss ++ [mk (G k)]))) := by
          unfold Hid
          rw [Texts.cellsT_snoc]
          exact hown6
        have HSN : Hid (ss ++ [mk (G k)] = told G (k + 1) ∧ (ss ++ [mk (G k)]).length = ss.length + 1) := ⟨by rw [told_snoc, HSS.out], by simp⟩
        clear hown6 hgrow hown5 hbl5
        generalize ss ++ [mk (G k)] = ss2 at *
        rw [← HSN.out.2] at HO6
        rw [← HSN.out.2]
        go_wp2
        go_roundw
        case rel => exact ⟨k + 1, ss2, o6, c6, by omega, by go_num, rfl, HSN.out.1, HO6.out, HB6.out⟩
        case measure => simp [intOf]; omega
      · have hkL : k = L := by omega
        have HVS : Hid (ss = vs) := by unfold Hid; rw [HSS.out, HV1.out, hkL]
        obtain rfl := HVS.out
        clear hkL
        go_wp2
        go_ret2
        exact ⟨ov, cv, rfl, Tree.own_mono HOWN.out B3.out.size, BW'.out⟩
end Go.Proofs.YtcpfhfdgfcilaaaGreatDoor.Arr
namespace Go.Proofs.YtcpfhfdgfcilaaaGreatDoor.Val
open Go.ChangeShapes Go.WideShapes Go.ChangeAt Go.RowKit

set_option maxRecDepth 20000 in
set_option maxHeartbeats 800000 in
theorem bytesY (b : Nat) (s : ByteArray) (p j n : Nat) (hs : s.size ≤ 65536) (hk : Hid (numAt 58 ((bl s).drop p) = some (j, (n : Int)))) (q : Nat) (HQ : Hid (q = p + j + 1)) (hn : q + n ≤ s.size) (w : World) (h : Hid (Tk w b s p)) (hw : Hid (HomeE w)) (h6 : Hid (4 ≤ b)) :
    Calls Tryz.prog 238 #[.pointer (some ⟨b, 0, none⟩)] w fun r w' => r = .returned (.tuple #[.string (s.extract q (q + n)), .bool true]) ∧ Tk w' b s (q + n) ∧ Mv b w w' := by
  obtain ⟨k1, k2⟩ := numAt_some.1 hk.out
  have k3 : Hid (FirstAt s p 58 (p + j)) := first_seek k1
  have k4 : Hid (numOf (bl (s.extract p (p + j))) = some (n : Int)) := by
    unfold Hid
    rw [← take_drop_extract, Nat.add_sub_cancel_left]
    exact k2
  clear k1 k2 hk
  go_enter Tryz.func238, Tryz.ntmps238
  go_wp2_with fail
  refine (upToY b s p 58 j hs k3 w h.out).mono ?_
  rintro e w1 ⟨rfl, t1, m1⟩
  go_wp2_with fail
  refine (numberY _ (n : Int) (extract_size _ _ _ hs) k4 w1 (hw.out.move m1 h6.out)).mono ?_
  rintro e w2 ⟨rfl, b2⟩
  have t2 := t1.later b2
  have m2 := m1.trans (Mv.of b2)
  have c0 := t2.text
  have c1 := t2.at
  have c2 := t2.fz
  rw [← HQ.out] at t2 c1
  obtain ⟨w3, e3, t3, m3⟩ := t2.go (q + n) ((q : Int) + (n : Int)) (by omega)
  have x2 : IntKind.i64.wrap ((q : Int) + (n : Int)) = (q : Int) + (n : Int) := by rw [IntKind.wrap_i64]; omega
  have i1 : (0 : Int) ≤ (q : Int) := Int.natCast_nonneg _
  have i2 : (n : Int) ≤ (s.size : Int) - (q : Int) := by omega
  have H3 : Hid (Tk w3 b s (q + n) ∧ Mv b w w3) := ⟨t3, m2.trans m3⟩
  clear t1 m1 b2 t2 m2 m3
  go_wp2_with fail
  clear c0 c1 c2 e3
  have c0 := t3.text
  have c1 := t3.at
  rw [show ((q + n : Nat) : Int) = (q : Int) + (n : Int) from by omega] at c1
  have q1 : (q : Int) ≤ (q : Int) + (n : Int) := by omega
  have q2 : (q : Int) + (n : Int) ≤ (s.size : Int) := by omega
  have q0 : (0 : Int) ≤ (q : Int) + (n : Int) := by omega
  have q3 : ((q : Int) + (n : Int)).toNat = q + n := by omega
  clear t3
  go_quiet (fail)
  go_wp2
  go_ret2
  exact ⟨rfl, H3.out.1.later (drewN_below _ _), H3.out.2.trans (Mv.of (drewN_below _ _))⟩
/-- No count, or one that is too much. -/
def NoBytes (s : ByteArray) (p : Nat) : Prop := ∀ (j n : Nat), numAt 58 ((bl s).drop p) = some (j, (n : Int)) → s.size < p + j + 1 + n
set_option maxRecDepth 20000 in
set_option maxHeartbeats 800000 in
theorem bytesN (b : Nat) (s : ByteArray) (p : Nat) (hp : p ≤ s.size) (hs : s.size ≤ 65536) (hk : Hid (NoBytes s p)) (w : World) (h : Hid (Tk w b s p)) (hw : Hid (HomeE w)) (h6 : Hid (4 ≤ b)) :
    Calls Tryz.prog 238 #[.pointer (some ⟨b, 0, none⟩)] w fun r w' => ∃ t q, r = .returned (.tuple #[.string t, .bool false]) ∧ p ≤ q ∧ q ≤ s.size ∧ Tk w' b s q ∧ Mv b w w' := by
  cases c : seek 58 ((bl s).drop p) with
  | none =>
    have C : Hid (seek 58 ((bl s).drop p) = none) := c
    clear c hk
    go_enter Tryz.func238, Tryz.ntmps238
    go_wp2_with fail
    refine (upToN b s p 58 hp C w h.out).mono ?_
    rintro e w1 ⟨rfl, t1, m1⟩
    have H2 : Hid (Tk w1 b s p ∧ Mv b w w1) := ⟨t1, m1⟩
    clear t1 m1
    go_wp2
    go_ret2
    exact ⟨_, p, rfl, Nat.le_refl _, hp, H2.out⟩
  | some j =>
    have k3 : Hid (FirstAt s p 58 (p + j)) := first_seek c
    have k5 : p + j < s.size := k3.out.2.1
    cases d : numOf (bl (s.extract p (p + j))) with
    | none =>
      have k4 : Hid (numOf (bl (s.extract p (p + j))) = none) := d
      clear c d hk
      go_enter Tryz.func238, Tryz.ntmps238
      go_wp2_with fail
      refine (upToY b s p 58 j hs k3 w h.out).mono ?_
      rintro e w1 ⟨rfl, t1, m1⟩
      go_wp2_with fail
      refine (numberN _ (extract_size _ _ _ hs) k4 w1 (hw.out.move m1 h6.out)).mono ?_
      rintro e w2 ⟨y, rfl, b2⟩
      have t2 := t1.later b2
      have c0 := t2.text
      have c1 := t2.at
      have H2 : Hid (Tk w2 b s (p + j + 1) ∧ Mv b w w2) := ⟨t2, m1.trans (Mv.of b2)⟩
      clear t1 m1 b2 t2
      go_wp2
      go_ret2
      exact ⟨_, p + j + 1, rfl, by omega, by omega, H2.out⟩
    | some x =>
      have k4 : Hid (numOf (bl (s.extract p (p + j))) = some x) := d
      obtain ⟨q, hq⟩ : ∃ q, q = p + j + 1 := ⟨_, rfl⟩
      have HQ : Hid (q = p + j + 1) := hq
      have hx : x < 0 ∨ (s.size : Int) - (q : Int) < x := by
        by_cases c0 : x < 0
        · exact .inl c0
        · obtain ⟨n, rfl⟩ : ∃ n : Nat, x = (n : Int) := ⟨x.toNat, by omega⟩
          have := hk.out j n (numAt_some.2 ⟨c, by
            have e := take_drop_extract s p (p + j)
            rw [Nat.add_sub_cancel_left] at e
            rw [e]
            exact d⟩)
          right
          omega
      have hqs : q ≤ s.size := by omega
      have hpq : p ≤ q := by omega
      clear c d hk hq k5
      go_enter Tryz.func238, Tryz.ntmps238
      go_wp2_with fail
      refine (upToY b s p 58 j hs k3 w h.out).mono ?_
      rintro e w1 ⟨rfl, t1, m1⟩
      go_wp2_with fail
      refine (numberY _ x (extract_size _ _ _ hs) k4 w1 (hw.out.move m1 h6.out)).mono ?_
      rintro e w2 ⟨rfl, b2⟩
      have t2 := t1.later b2
      rw [← HQ.out] at t2
      have c0 := t2.text
      have c1 := t2.at
      have H2 : Hid (Tk w2 b s q ∧ Mv b w w2) := ⟨t2, m1.trans (Mv.of b2)⟩
      clear t1 m1 b2 t2
      by_cases hx0 : x < 0
      · clear hx
        go_wp2
        go_ret2
        exact ⟨_, q, rfl, hpq, hqs, H2.out⟩
      · have hx1 : (s.size : Int) - (q : Int) < x := by omega
        clear hx
        go_wp2
        go_ret2
        exact ⟨_, q, rfl, hpq, hqs, H2.out⟩
end Go.Proofs.YtcpfhfdgfcilaaaGreatDoor.Val
