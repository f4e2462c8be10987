/-
  Several texts in one: A row's value, by the document: a list: contract. · A row's value, by the document: a struct: contract. · All rows' values, by the document: Values: contract. · A taker's bytes: contracts.
-/
import Derived.Test.YtcpfhfdgfcilaaaGreatDoorB14
import Derived.Test.YtcpfhfdgfcilaaaGreatDoorB09
import Derived.Test.YtcpfhfdgfcilaaaGreatDoorB12
import Derived.Maps.AppendAt
import Derived.OneCell
import Derived.Laws.OwnMore
import Derived.Test.YtcpfhfdgfcilaaaGreatDoorB11
set_option linter.unusedVariables false
set_option linter.unusedSimpArgs false
namespace Go.Proofs.YtcpfhfdgfcilaaaGreatDoor.Arr
open Go.ChangeShapes Go.WideShapes Go.ChangeAt Go.RowKit
open Tree Val

theorem info9 : (Tryz.prog.info? 9).map (fun i => (i.zero, i.size, i.bytes)) = some (some (.string ⟨#[]⟩), 1, 16) := by kernel_rfl
/-- Texts that are told one behind the other. -/
def told (g : Nat → List UInt8) (k : Nat) : List ByteArray := (List.range k).map fun j => mk (g j)
theorem told_snoc (g : Nat → List UInt8) (k : Nat) : told g (k + 1) = told g k ++ [mk (g k)] := by simp [told, List.range_succ]
theorem length_told (g : Nat → List UInt8) (k : Nat) : (told g k).length = k := by simp [told]
theorem told_bl (g : Nat → List UInt8) (k : Nat) : (told g k).map bl = (List.range k).map g := by
  simp only [told, List.map_map]
  exact List.map_congr_left fun j _ => bl_mk _
theorem told_flat (g : Nat → List UInt8) (m : Nat) : ∀ k, (∀ j, j < k → (g j).length ≤ m) → (flat (told g k)).length ≤ m * k := by
  intro k
  induction k with
  | zero => intro _; exact Nat.zero_le _
  | succ k ih =>
    intro h
    rw [told_snoc]
    have e : (flat (told g k ++ [mk (g k)])).length = (flat (told g k)).length + (g k).length := by
      simp [flat]
      exact congrArg List.length (bl_mk _)
    rw [e]
    have := h k (Nat.lt_succ_self k)
    have := ih fun j hj => h j (by omega)
    rw [Nat.mul_succ]
    omega
/-- An append that is carried out. -/
theorem upon_append {P : Program} {o : Oper} {a : Act} {w w' : World} {s x : Operand} {t ty : TypeId} {v' sv xv : Value} {K : Act → World → Prop} {Q : Exit → Act → World → Prop} (ho : o.op = .call { callee := .builtin .append, args := #[s, x], argTypes := #[t, t] }) (hty : o.type = ty) (hs : a.eval s = sv) (hx : a.eval x = xv)
    (hr : (Builtin.append_ #[t, t] ty #[sv, xv]).run P w = .ok v' w') (hK : K (a.put o.dst v') w') : Oper.wp P o a w K Q := by
  subst hty hs hx
  unfold Oper.wp execOp
  simp only [ho, resolve, invoke, builtin, Sem.run_bind, Sem.run_pure, Result.andThen_ok, List.map_toArray, List.map_cons, List.map_nil, hr]
  exact hK
/-- A text appended to a row of one's own. -/
theorem append_text {w : World} {base n : Nat} {v : Value} {ss : List ByteArray} (h : w.ownsRow base 9 1 v n (Texts.cellsT ss)) (hb : base ≤ w.heap.size) (hn : n ≤ 4096) (t : ByteArray) (hv : n = ss.length) :
    ∃ o c w', (Builtin.append_ #[29, 29] 29 #[v, .slice (some ⟨w.heap.size, 0, none⟩) 1 1]).run Tryz.prog (w.alloc (.cells #[.string t] 9)) = .ok (.slice o (n + 1) c) w' ∧ w'.ownsRow base 9 1 (.slice o (n + 1) c) (n + 1) (Texts.cellsT (ss ++ [t])) ∧ Below base w w' := by
  obtain ⟨i9, hi, hz0, hz1, hz2⟩ := info_parts info9
  have hal : (w.alloc (.cells #[.string t] 9)).ownsRow base 9 1 v n (Texts.cellsT ss) := h.alloc _
  obtain ⟨v', w', hr, h2, h3, h4, h5⟩ := run_append_own_at (P := Tryz.prog) (w.alloc (.cells #[.string t] 9)) base 29 29 9 i9 (.string ⟨#[]⟩) 1 16 Tryz.underlying29 hi hz0 hz1 hz2 rfl (by decide) v n _ hal ⟨w.heap.size, 0, none⟩ 1 1 [.string t] rfl (cell_one_new _ _ _) (by intro u hu; simp at hu; subst hu; rfl) (by unfold maxLen; omega) (by omega) (by simp; omega)
  obtain ⟨o, c, rfl⟩ := ownsRow_len h2
  refine ⟨o, c, w', hr, by rw [Texts.cellsT_snoc]; exact h2, ?_⟩
  exact ((Below.refl base w).alloc hb _).grown h3 (by simp; omega) (fun i hi => (hal.lt i hi).1)
end Go.Proofs.YtcpfhfdgfcilaaaGreatDoor.Arr
set_option linter.unusedVariables false
set_option linter.unusedSimpArgs false
namespace Go.Proofs.YtcpfhfdgfcilaaaGreatDoor.Arr
open Go.ChangeShapes Go.WideShapes Go.ChangeAt Go.RowKit
open Tree Val

end Go.Proofs.YtcpfhfdgfcilaaaGreatDoor.Arr
namespace Go.Proofs.YtcpfhfdgfcilaaaGreatDoor.Arr
open Go.ChangeShapes Go.WideShapes Go.ChangeAt Go.RowKit
open Tree Val

theorem may_head {ns : List Nd} {x : Int} {f : Nat} {a : Arr} (h : mayZ ns x (f + 1) a = true) : ∃ n : Nat, x = (n : Int) ∧ n < ns.length ∧ may ns = true ∧ mayF ns (f + 1) n a = true ∧ Head ns n a := by
  unfold mayZ at h
  rw [Bool.and_eq_true] at h
  obtain ⟨n, rfl, hn, hM⟩ := has_of h.1
  have hm : may ns = true := by have := h.1; unfold hasB at this; rw [Bool.and_eq_true] at this; exact this.2
  exact ⟨n, rfl, hn, hm, h.2, (mayF_cases h.2).1⟩
end Go.Proofs.YtcpfhfdgfcilaaaGreatDoor.Arr
namespace Go.Proofs.YtcpfhfdgfcilaaaGreatDoor.Val
open Go.ChangeShapes Go.WideShapes Go.ChangeAt Go.RowKit

set_option maxRecDepth 20000 in
set_option maxHeartbeats 800000 in
theorem bytesY (b : Nat) (s : ByteArray) (p j n : Nat) (hs : s.size ≤ 65536) (hk : Hid (numAt 58 ((bl s).drop p) = some (j, (n : Int)))) (q : Nat) (HQ : Hid (q = p + j + 1)) (hn : q + n ≤ s.size) (w : World) (h : Hid (Tk w b s p)) (hw : Hid (HomeE w)) (h6 : Hid (4 ≤ b)) :
    Calls Tryz.prog 238 #[.pointer (some ⟨b, 0, none⟩)] w fun r w' => r = .returned (.tuple #[.string (s.extract q (q + n)), .bool true]) ∧ Tk w' b s (q + n) ∧ Mv b w w' := by
  obtain ⟨k1, k2⟩ := numAt_some.1 hk.out
  have k3 : Hid (FirstAt s p 58 (p + j)) := first_seek k1
  have k4 : Hid (numOf (bl (s.extract p (p + j))) = some (n : Int)) := by
    unfold Hid
    rw [← take_drop_extract, Nat.add_sub_cancel_left]
    exact k2
  clear k1 k2 hk
  go_enter Tryz.func238, Tryz.ntmps238
  go_wp2_with fail
  refine (upToY b s p 58 j hs k3 w h.out).mono ?_
  rintro e w1 ⟨rfl, t1, m1⟩
  go_wp2_with fail
  refine (numberY _ (n : Int) (extract_size _ _ _ hs) k4 w1 (hw.out.move m1 h6.out)).mono ?_
  rintro e w2 ⟨rfl, b2⟩
  have t2 := t1.later b2
  have m2 := m1.trans (Mv.of b2)
  have c0 := t2.text
  have c1 := t2.at
  have c2 := t2.fz
  rw [← HQ.out] at t2 c1
  obtain ⟨w3, e3, t3, m3⟩ := t2.go (q + n) ((q : Int) + (n : Int)) (by omega)
  have x2 : IntKind.i64.wrap ((q : Int) + (n : Int)) = (q : Int) + (n : Int) := by rw [IntKind.wrap_i64]; omega
  have i1 : (0 : Int) ≤ (q : Int) := Int.natCast_nonneg _
  have i2 : (n : Int) ≤ (s.size : Int) - (q : Int) := by omega
  have H3 : Hid (Tk w3 b s (q + n) ∧ Mv b w w3) := ⟨t3, m2.trans m3⟩
  clear t1 m1 b2 t2 m2 m3
  go_wp2_with fail
  clear c0 c1 c2 e3
  have c0 := t3.text
  have c1 := t3.at
  rw [show ((q + n : Nat) : Int) = (q : Int) + (n : Int) from by omega] at c1
  have q1 : (q : Int) ≤ (q : Int) + (n : Int) := by omega
  have q2 : (q : Int) + (n : Int) ≤ (s.size : Int) := by omega
  have q0 : (0 : Int) ≤ (q : Int) + (n : Int) := by omega
  have q3 : ((q : Int) + (n : Int)).toNat = q + n := by omega
  clear t3
  go_quiet (fail)
  go_wp2
  go_ret2
  exact ⟨rfl, H3.out.1.later (drewN_below _ _), H3.out.2.trans (Mv.of (drewN_below _ _))⟩
/-- No count, or one that is too much. -/
def NoBytes (s : ByteArray) (p : Nat) : Prop := ∀ (j n : Nat), numAt 58 ((bl s).drop p) = some (j, (n : Int)) → s.size < p + j + 1 + n
set_option maxRecDepth 20000 in
set_option maxHeartbeats 800000 in
theorem bytesN (b : Nat) (s : ByteArray) (p : Nat) (hp : p ≤ s.size) (hs : s.size ≤ 65536) (hk : Hid (NoBytes s p)) (w : World) (h : Hid (Tk w b s p)) (hw : Hid (HomeE w)) (h6 : Hid (4 ≤ b)) :
    Calls Tryz.prog 238 #[.pointer (some ⟨b, 0, none⟩)] w fun r w' => ∃ t q, r = .returned (.tuple #[.string t, .bool false]) ∧ p ≤ q ∧ q ≤ s.size ∧ Tk w' b s q ∧ Mv b w w' := by
  cases c : seek 58 ((bl s).drop p) with
  | none =>
    have C : Hid (seek 58 ((bl s).drop p) = none) := c
    clear c hk
    go_enter Tryz.func238, Tryz.ntmps238
    go_wp2_with fail
    refine (upToN b s p 58 hp C w h.out).mono ?_
    rintro e w1 ⟨rfl, t1, m1⟩
    have H2 : Hid (Tk w1 b s p ∧ Mv b w w1) := ⟨t1, m1⟩
    clear t1 m1
    go_wp2
    go_ret2
    exact ⟨_, p, rfl, Nat.le_refl _, hp, H2.out⟩
  | some j =>
    have k3 : Hid (FirstAt s p 58 (p + j)) := first_seek c
    have k5 : p + j < s.size := k3.out.2.1
    cases d : numOf (bl (s.extract p (p + j))) with
    | none =>
      have k4 : Hid (numOf (bl (s.extract p (p + j))) = none) := d
      clear c d hk
      go_enter Tryz.func238, Tryz.ntmps238
      go_wp2_with fail
      refine (upToY b s p 58 j hs k3 w h.out).mono ?_
      rintro e w1 ⟨rfl, t1, m1⟩
      go_wp2_with fail
      refine (numberN _ (extract_size _ _ _ hs) k4 w1 (hw.out.move m1 h6.out)).mono ?_
      rintro e w2 ⟨y, rfl, b2⟩
      have t2 := t1.later b2
      have c0 := t2.text
      have c1 := t2.at
      have H2 : Hid (Tk w2 b s (p + j + 1) ∧ Mv b w w2) := ⟨t2, m1.trans (Mv.of b2)⟩
      clear t1 m1 b2 t2
      go_wp2
      go_ret2
      exact ⟨_, p + j + 1, rfl, by omega, by omega, H2.out⟩
    | some x =>
      have k4 : Hid (numOf (bl (s.extract p (p + j))) = some x) := d
      obtain ⟨q, hq⟩ : ∃ q, q = p + j + 1 := ⟨_, rfl⟩
      have HQ : Hid (q = p + j + 1) := hq
      have hx : x < 0 ∨ (s.size : Int) - (q : Int) < x := by
        by_cases c0 : x < 0
        · exact .inl c0
        · obtain ⟨n, rfl⟩ : ∃ n : Nat, x = (n : Int) := ⟨x.toNat, by omega⟩
          have := hk.out j n (numAt_some.2 ⟨c, by
            have e := take_drop_extract s p (p + j)
            rw [Nat.add_sub_cancel_left] at e
            rw [e]
            exact d⟩)
          right
          omega
      have hqs : q ≤ s.size := by omega
      have hpq : p ≤ q := by omega
      clear c d hk hq k5
      go_enter Tryz.func238, Tryz.ntmps238
      go_wp2_with fail
      refine (upToY b s p 58 j hs k3 w h.out).mono ?_
      rintro e w1 ⟨rfl, t1, m1⟩
      go_wp2_with fail
      refine (numberY _ x (extract_size _ _ _ hs) k4 w1 (hw.out.move m1 h6.out)).mono ?_
      rintro e w2 ⟨rfl, b2⟩
      have t2 := t1.later b2
      rw [← HQ.out] at t2
      have c0 := t2.text
      have c1 := t2.at
      have H2 : Hid (Tk w2 b s q ∧ Mv b w w2) := ⟨t2, m1.trans (Mv.of b2)⟩
      clear t1 m1 b2 t2
      by_cases hx0 : x < 0
      · clear hx
        go_wp2
        go_ret2
        exact ⟨_, q, rfl, hpq, hqs, H2.out⟩
      · have hx1 : (s.size : Int) - (q : Int) < x := by omega
        clear hx
        go_wp2
        go_ret2
        exact ⟨_, q, rfl, hpq, hqs, H2.out⟩
end Go.Proofs.YtcpfhfdgfcilaaaGreatDoor.Val
