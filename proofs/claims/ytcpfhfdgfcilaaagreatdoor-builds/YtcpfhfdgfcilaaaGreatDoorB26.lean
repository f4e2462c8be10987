/-
  Several texts in one: Texts of rows, one row behind the other (slices.Concat, slices.Grow): contracts. · Cells that the program lays down: bits, numbers, ends: contracts.
-/
import Derived.Test.YtcpfhfdgfcilaaaGreatDoorB25
import Derived.Test.YtcpfhfdgfcilaaaGreatDoorB20
import Derived.Laws.MakeOwn
import Derived.Test.YtcpfhfdgfcilaaaGreatDoorB05
import Derived.Test.YtcpfhfdgfcilaaaGreatDoorB12
set_option linter.unusedVariables false
set_option linter.unusedSimpArgs false
namespace Go.Proofs.YtcpfhfdgfcilaaaGreatDoor.Arr
open Go.ChangeShapes Go.WideShapes Go.ChangeAt Go.RowKit
open Tree Val

theorem run_append_make (w : World) (n : Nat) (h0 : 0 < n) (hn : n ≤ 1048576) : ∃ w1 c, (Builtin.append_ #[29, 3] 29 #[.slice none 0 0, .int .i64 (n : Int)]).run Tryz.prog w = .ok (.slice (some ⟨w.heap.size, 0, none⟩) n c) w1 ∧ n ≤ c ∧ w1.ownsRow w.heap.size 9 1 (.slice (some ⟨w.heap.size, 0, none⟩) 0 c) 0 [] ∧ Below w.heap.size w w1 := by
  obtain ⟨i, hi, hz0, hz1, hz2⟩ := info_parts info9
  have h48 : n * 16 ≤ 281474976710656 := by omega
  have hw : IntKind.i64.wrap (n : Int) = (n : Int) := by rw [IntKind.wrap_i64]; omega
  have h1 : ¬ ((n : Int) < 0) := by omega
  have h2 : ¬ (281474976710656 < (n : Int) * 16) := by omega
  have h3 : n ≠ 0 := by omega
  have h6 : ¬ ((n : Int) ≤ 0) := by omega
  have h4 : ¬ (9223372036854775807 < (n : Int)) := by omega
  have h5 : ¬ (281474976710656 < Builtin.nextslicecap n 0 * 16) := by rw [nextslicecap_zero h0]; omega
  refine ⟨w.drew.alloc (.cells (Builtin.zeroCells (Value.string ⟨#[]⟩).cells n ++ Builtin.zeroCells (Value.string ⟨#[]⟩).cells (grownCap w n 0 9 - n)) 9), grownCap w n 0 9, ?_, grownCap_ge w n 0 9, ?_, ((Below.refl _ _).drew).alloc (by simp) _⟩
  · simp [Builtin.append_, run_underlying Tryz.underlying29, run_underlying Tryz.underlying3, sizeOf, typeInfo, zeroValue, hi, hz0, hz1, hz2, asInt, asIntOf, hw, h6, h1, h2, h3, h4, h5, Question.forced, run_firstCells_none, newRow, grownCap]
  · have := World.ownsRow_made (base := w.heap.size) (e := 9) (size := 1) w.drew (Builtin.zeroCells (Value.string ⟨#[]⟩).cells n ++ Builtin.zeroCells (Value.string ⟨#[]⟩).cells (grownCap w n 0 9 - n)) (grownCap w n 0 9) (by simp) (grownCap_le_maxLen w n 0 9 (by unfold maxLen; omega)) (by
      have := grownCap_ge w n 0 9
      simp [size_zeroCells, Value.cells]
      omega)
    simpa using this
theorem wpList_append_make {ops : Array Oper} {rest : List Oper} {o : Oper} {a : Act} {Q : Exit → Act → World → Prop} {w : World} (hgd : o.guard = none) (s x : Operand) (hty : o.type = 29)
    (ho : o.op = .call { callee := .builtin .append, args := #[s, x], argTypes := #[29, 3] }) {n : Nat} (hs : a.eval s = .slice none 0 0) (hx : a.eval x = .int .i64 (n : Int)) (h0 : 0 < n) (hn : n ≤ 1048576)
    (h : ∀ w1 c, n ≤ c → w1.ownsRow w.heap.size 9 1 (.slice (some ⟨w.heap.size, 0, none⟩) 0 c) 0 [] → Below w.heap.size w w1 → wpList Tryz.prog ops Q rest (a.put o.dst (.slice (some ⟨w.heap.size, 0, none⟩) n c)) w1) : wpList Tryz.prog ops Q (o :: rest) a w := by
  refine wpList_plain hgd fun K hK => ?_
  obtain ⟨w1, c, hr, h2, h3, h5⟩ := run_append_make w n h0 hn
  unfold Oper.wp execOp
  simp only [ho, hty, resolve, invoke, builtin, Sem.run_bind, Sem.run_pure, Result.andThen_ok, List.map_toArray, List.map_cons, List.map_nil, hs, hx, hr]
  exact hK _ _ (h w1 c h2 h3 h5)
set_option maxRecDepth 20000 in
set_option maxHeartbeats 1600000 in
theorem growT (n : Nat) (hn : n ≤ 1048576) (w : World) :
    Calls Tryz.prog 166 #[.slice none 0 0, .int .i64 (n : Int)] w fun r w' => ∃ o c, r = .returned (.slice o 0 c) ∧ w'.ownsRow w.heap.size 9 1 (.slice o 0 c) 0 [] ∧ Below w.heap.size w w' := by
  have i0 : (0 : Int) ≤ (n : Int) := Int.natCast_nonneg _
  by_cases h0 : n = 0
  · subst h0
    go_enter Tryz.func166, Tryz.ntmps166
    go_wp2
    go_ret
    exact ⟨none, 0, rfl, World.ownsRow_nil _ _ _ _, Below.refl _ _⟩
  · have i1 : decide ((0 : Int) < (n : Int)) = true := decide_eq_true (by omega)
    have i2 : decide ((n : Int) < 0) = false := decide_eq_false (by omega)
    go_enter Tryz.func166, Tryz.ntmps166
    go_wp2_with (at_builtin; refine wpList_append_make rfl (.tmp 20) (.tmp 21) rfl rfl rfl rfl (by omega) hn ?_)
    intro w1 c hc hown hb
    go_wp2
    go_ret
    exact ⟨_, c, rfl, hown, hb⟩
/-- Nothing appended to a row of one's own. -/
theorem append_empty {w : World} {base n : Nat} {v : Value} {xs : List Value} (h : w.ownsRow base 9 1 v n xs) (oP : Option Addr) (cP : Nat) : (Builtin.append_ #[29, 29] 29 #[v, .slice oP 0 cP]).run Tryz.prog w = .ok v w := by
  obtain ⟨i9, hi, hz0, hz1, hz2⟩ := info_parts info9
  rcases h.2 with ⟨rfl, rfl⟩ | ⟨g, cap, cur, rfl, _, _, hnc, _⟩ <;> cases oP
  all_goals simp [Builtin.append_, run_underlying Tryz.underlying29, sizeOf, typeInfo, hi, Builtin.lenOf, Builtin.firstCells, loadCells, loadCellsFrom, storeCells, *]
set_option maxRecDepth 20000 in
theorem run_append_lies {w : World} {base n : Nat} {v : Value} {ss : List ByteArray} (hown : w.ownsRow base 9 1 v n (Texts.cellsT ss)) (hn : n = ss.length) {oP : Option Addr} {cP : Nat} {ps : List ByteArray} (hp : Texts.IsTx w oP ps) (h63 : n + ps.length ≤ 1048576) (hbase : base ≤ w.heap.size) :
    ∃ v' w', (Builtin.append_ #[29, 29] 29 #[v, .slice oP ps.length cP]).run Tryz.prog w = .ok v' w' ∧ w'.ownsRow base 9 1 v' (ss ++ ps).length (Texts.cellsT (ss ++ ps)) ∧ w.grownBy w' v.ownBlock ∧ (v'.ownBlock = v.ownBlock ∨ v'.ownBlock = some w.heap.size) := by
  subst hn
  obtain ⟨i9, hi, hz0, hz1, hz2⟩ := info_parts info9
  rcases hp.2 with rfl | ⟨x, rfl, hl⟩
  · exact ⟨v, w, append_empty hown _ _, by rw [List.append_nil]; exact hown, ⟨rfl, rfl, rfl, Nat.le_refl _, fun _ _ _ => rfl⟩, .inl rfl⟩
  · obtain ⟨v', w', hr, a1, a2, _, a4⟩ := run_append_own_at (P := Tryz.prog) w base 29 29 9 i9 (.string ⟨#[]⟩) 1 16 Tryz.underlying29 hi hz0 hz1 hz2 rfl (by decide) v ss.length _ hown x ps.length cP (Texts.cellsT ps) (by simp [Texts.cellsT]) (fun j u hu => by
        have hj : j < ps.length := by
          have := (List.getElem?_eq_some_iff.1 hu).1
          simpa [Texts.cellsT] using this
        rw [Texts.cellsT_at ps j hj] at hu
        rw [← Option.some.inj hu]
        exact hl j hj) (by intro u hu; simp [Texts.cellsT] at hu; obtain ⟨s, _, rfl⟩ := hu; rfl) (by unfold maxLen; omega) (by omega) hbase
    refine ⟨v', w', hr, ?_, a2, a4⟩
    rw [List.length_append, show Texts.cellsT (ss ++ ps) = Texts.cellsT ss ++ Texts.cellsT ps from by simp [Texts.cellsT]]
    exact a1
set_option maxRecDepth 20000 in
theorem wpList_append_lies {ops : Array Oper} {rest : List Oper} {o : Oper} {a : Act} {Q : Exit → Act → World → Prop} {w : World} (hgd : o.guard = none) (s x : Operand) (hty : o.type = 29)
    (ho : o.op = .call { callee := .builtin .append, args := #[s, x], argTypes := #[29, 29] }) {base n : Nat} {v : Value} {ss : List ByteArray} (hs : a.eval s = v) (hown : w.ownsRow base 9 1 v n (Texts.cellsT ss)) (hn : n = ss.length) {oP : Option Addr} {cP : Nat} {ps : List ByteArray} (hx : a.eval x = .slice oP ps.length cP) (hp : Texts.IsTx w oP ps) (h63 : n + ps.length ≤ 1048576) (hbase : base ≤ w.heap.size)
    (h : ∀ v' w', w'.ownsRow base 9 1 v' (ss ++ ps).length (Texts.cellsT (ss ++ ps)) → w.grownBy w' v.ownBlock → (v'.ownBlock = v.ownBlock ∨ v'.ownBlock = some w.heap.size) → wpList Tryz.prog ops Q rest (a.put o.dst v') w') : wpList Tryz.prog ops Q (o :: rest) a w := by
  refine wpList_plain hgd fun K hK => ?_
  obtain ⟨v', w', hr, h2, h3, h5⟩ := run_append_lies hown hn hp h63 hbase
  unfold Oper.wp execOp
  simp only [ho, hty, resolve, invoke, builtin, Sem.run_bind, Sem.run_pure, Result.andThen_ok, List.map_toArray, List.map_cons, List.map_nil, hs, hx]
  rw [hr]
  exact hK _ _ (h v' w' h2 h3 h5)
/-- The rows so far, one behind the other. -/
def catT (Ps : List (List ByteArray)) (k : Nat) : List ByteArray := (Ps.take k).flatten
theorem catT_succ (Ps : List (List ByteArray)) {k : Nat} (h : k < Ps.length) : catT Ps (k + 1) = catT Ps k ++ Ps.getD k [] := by
  unfold catT
  rw [List.take_add_one, List.getElem?_eq_getElem h, Option.toList_some, List.flatten_append, List.flatten_singleton, List.getD_eq_getElem?_getD, List.getElem?_eq_getElem h, Option.getD_some]
theorem catT_all (Ps : List (List ByteArray)) : catT Ps Ps.length = Ps.flatten := by unfold catT; rw [List.take_length]
theorem catT_le (Ps : List (List ByteArray)) (m : Nat) (h : ∀ k, k < Ps.length → (Ps.getD k []).length ≤ m) : ∀ k, k ≤ Ps.length → (catT Ps k).length ≤ m * k := by
  intro k
  induction k with
  | zero => intro _; simp [catT]
  | succ k ih =>
    intro hk
    rw [catT_succ Ps (by omega), List.length_append]
    have h1 := h k (by omega)
    have h2 := ih (by omega)
    have h3 : m * (k + 1) = m * k + m := Nat.mul_succ _ _
    omega
theorem bel_grown {b w w' w2 : World} (h : Below b.heap.size b w) {row : Option Nat} (hg : w.grownBy w2 row) (hr : ∀ k, row = some k → b.heap.size ≤ k) : Below b.heap.size b w2 :=
  ⟨hg.os.trans h.os, hg.tape.trans h.tape, hg.output.trans h.output, Nat.le_trans h.size hg.size, fun k hk => (hg.block k (Nat.lt_of_lt_of_le hk h.size) (fun c => by have := hr k c.symm; omega)).trans (h.block k hk)⟩
set_option maxRecDepth 20000 in
set_option maxHeartbeats 3200000 in
theorem concatT (Ps : List (List ByteArray)) (o : Option Addr) (cap : Nat) (hn : Ps.length ≤ 64) (hm : ∀ k, k < Ps.length → (Ps.getD k []).length ≤ 64) (w : World) (hx : Hid (IsRows w o Ps)) :
    Calls Tryz.prog 106 #[.slice o Ps.length cap] w fun r w' => ∃ o' c', r = .returned (.slice o' Ps.flatten.length c') ∧ w'.ownsRow w.heap.size 9 1 (.slice o' Ps.flatten.length c') Ps.flatten.length (Texts.cellsT Ps.flatten) ∧ Below w.heap.size w w' := by
  obtain ⟨xs, hxl, hL, hrow⟩ := hx.out
  have HL : Hid (IsL w o xs) := hL
  have HROW : Hid (∀ k x, xs[k]? = some x → ∃ ok ck, x = .slice ok (Ps.getD k []).length ck ∧ (Ps.getD k []).length ≤ ck ∧ Texts.IsTx w ok (Ps.getD k [])) := hrow
  have HXL : Hid (xs.length = Ps.length) := hxl
  have HLE : Hid (∀ k, k ≤ Ps.length → (catT Ps k).length ≤ 64 * k) := catT_le Ps 64 hm
  have HSU : Hid (∀ k, k < Ps.length → catT Ps (k + 1) = catT Ps k ++ Ps.getD k []) := fun k hk => catT_succ Ps hk
  have HALL : Hid (catT Ps Ps.length = Ps.flatten) := catT_all Ps
  have HM : Hid (∀ k, k < Ps.length → (Ps.getD k []).length ≤ 64) := hm
  clear hL hrow hxl hm
  generalize hN : Ps.length = n at *
  have HN : Hid (Ps.length = n) := hN
  clear hN
  go_enter Tryz.func106, Tryz.ntmps106
  go_wp2_with fail
  go_loop [3, 5, 11] (fun s _ i => ∃ k : Nat, k ≤ n ∧ i = .int .i64 (k : Int) ∧ s = .int .i64 ((catT Ps k).length : Int)) (fun _ _ i => n - (intOf i).toNat)
  case atStart => exact ⟨0, Nat.zero_le _, rfl, rfl⟩
  case round =>
    obtain ⟨k, hk, rfl, rfl⟩ := hrel
    have hle := HLE.out k hk
    have l0 : (0 : Int) ≤ ((catT Ps k).length : Int) := Int.natCast_nonneg _
    by_cases hlt : k < n
    · obtain ⟨x, rfl, hxx⟩ := HL.out.some (by rw [HXL.out]; omega)
      have hkl : k < xs.length := by rw [HXL.out]; exact hlt
      have hu := List.getElem?_eq_getElem hkl
      generalize xs[k] = u at hu
      obtain ⟨ok, ck, rfl, _, _⟩ := HROW.out k u hu
      have hcu := hxx k _ hu
      have i0 : (0 : Int) ≤ (k : Int) := Int.natCast_nonneg _
      have i1 : (k : Int) < (n : Int) := by omega
      have hmk := HM.out k hlt
      have HS : Hid ((catT Ps (k + 1)).length = (catT Ps k).length + (Ps.getD k []).length) := by unfold Hid; rw [HSU.out k hlt, List.length_append]
      have l1 : (0 : Int) ≤ ((Ps.getD k []).length : Int) := Int.natCast_nonneg _
      clear hxx hu hkl
      generalize (catT Ps k).length = sl at *
      generalize (Ps.getD k []).length = pl at *
      have q0 : decide ((sl : Int) + (pl : Int) < 0) = false := decide_eq_false (by omega)
      go_wp2
      go_round
      case rel => exact ⟨k + 1, by omega, by go_num, by rw [HS.out]; go_num⟩
      case measure => simp [intOf]; omega
    · obtain rfl : k = n := by omega
      have hle2 : (catT Ps k).length ≤ 4096 := by omega
      go_wp2_with fail
      refine (growT (catT Ps k).length (by omega) w).mono ?_
      rintro e w1 ⟨og, cg, rfl, hown, bg⟩
      have HO1 : Hid (w1.ownsRow w.heap.size 9 1 (.slice og 0 cg) 0 []) := hown
      have BG : Hid (Below w.heap.size w w1) := bg
      clear hown bg
      go_wp2_with fail
      go_loopw [6, 8, 27] (fun r _ i wr => ∃ j : Nat, j ≤ k ∧ i = .int .i64 (j : Int) ∧ wr.ownsRow w.heap.size 9 1 r (catT Ps j).length (Texts.cellsT (catT Ps j)) ∧ Below w.heap.size w wr) (fun _ _ i _ => k - (intOf i).toNat)
      case atStart => exact ⟨0, Nat.zero_le _, rfl, HO1.out, BG.out⟩
      case round =>
        obtain ⟨j, hj, rfl, hown, hbl⟩ := hrel
        obtain ⟨oj, cj, rfl⟩ := ownsRow_len hown
        have BL : Hid (Below w.heap.size w wr) := hbl
        have HOW : Hid (wr.ownsRow w.heap.size 9 1 (.slice oj (catT Ps j).length cj) (catT Ps j).length (Texts.cellsT (catT Ps j))) := hown
        clear hown hbl
        by_cases hlt2 : j < k
        · obtain ⟨x, rfl, hxx⟩ := HL.out.some (by rw [HXL.out]; omega)
          have hkl : j < xs.length := by rw [HXL.out]; exact hlt2
          have hu := List.getElem?_eq_getElem hkl
          generalize xs[j] = u at hu
          obtain ⟨ok, ck, rfl, _, htx⟩ := HROW.out j u hu
          have hcu := cell_later BL.out (hxx j _ hu)
          have HTX : Hid (Texts.IsTx wr ok (Ps.getD j [])) := htx.later BL.out
          have i0 : (0 : Int) ≤ (j : Int) := Int.natCast_nonneg _
          have i1 : (j : Int) < (k : Int) := by omega
          have HMK := HM.out j hlt2
          have HLJ := HLE.out j hj
          have HS : Hid (catT Ps (j + 1) = catT Ps j ++ Ps.getD j []) := HSU.out j hlt2
          clear hxx hu hkl htx
          generalize Ps.getD j [] = pj at *
          go_wp2_with (at_builtin; refine wpList_append_lies rfl (.tmp 31) (.tmp 32) rfl rfl rfl HOW.out rfl rfl HTX.out (by omega) BL.out.size ?_)
          intro v' w5 hown5 hg5 hb5
          have B5 : Hid (Below w.heap.size w w5) := bel_grown (w' := w) BL.out hg5 (fun b hb => (HOW.out.lt b hb).1)
          have HO5 : Hid (w5.ownsRow w.heap.size 9 1 v' (catT Ps (j + 1)).length (Texts.cellsT (catT Ps (j + 1)))) := by unfold Hid; rw [HS.out, List.length_append]; exact hown5
          clear hown5 hg5 hb5
          go_wp2
          go_roundw
          case rel => exact ⟨j + 1, by omega, by go_num, HO5.out, B5.out⟩
          case measure => simp [intOf]; omega
        · obtain rfl : j = k := by omega
          go_wp2
          go_ret
          rw [← HALL.out]
          exact ⟨oj, cj, rfl, HOW.out, BL.out⟩
end Go.Proofs.YtcpfhfdgfcilaaaGreatDoor.Arr
set_option linter.unusedVariables false
set_option linter.unusedSimpArgs false
namespace Go.Proofs.YtcpfhfdgfcilaaaGreatDoor.Arr
open Go.ChangeShapes Go.WideShapes Go.ChangeAt Go.RowKit
open Tree Val Sums

theorem lays166w : Go.Proofs.Lays.n166 Tryz.prog Tryz.lays156_ren := {
  mixed := Tryz.lays156.mixed
  f166 := Tryz.lays156.f166
  f240 := Tryz.lays156.f240
  f276 := Tryz.lays156.f276
  t0 := Tryz.lays156.t0
  a0 := Tryz.lays156.a0
  z0 := Tryz.lays156.z0
  v0 := Tryz.lays156.v0
  t3 := Tryz.lays156.t3
  a3 := Tryz.lays156.a3
  z3 := Tryz.lays156.z3
  v3 := Tryz.lays156.v3
  t4 := Tryz.lays156.t4
  a4 := Tryz.lays156.a4
  z4 := Tryz.lays156.z4
  v4 := Tryz.lays156.v4
  t9 := Tryz.lays156.t9
  a9 := Tryz.lays156.a9
  z9 := Tryz.lays156.z9
  v9 := Tryz.lays156.v9
  t20 := Tryz.lays156.t20
  a20 := Tryz.lays156.a20
  z20 := Tryz.lays156.z20
  v20 := Tryz.lays156.v20
  t37 := Tryz.lays156.t37
  a37 := Tryz.lays156.a37
  z37 := Tryz.lays156.z37
  v37 := Tryz.lays156.v37
  t70 := Tryz.lays156.t70
  a70 := Tryz.lays156.a70
  z70 := Tryz.lays156.z70
  v70 := Tryz.lays156.v70
  t72 := Tryz.lays156.t72
  a72 := Tryz.lays156.a72
  z72 := Tryz.lays156.z72
  v72 := Tryz.lays156.v72
  t75 := Tryz.lays156.t75
  a75 := Tryz.lays156.a75
  z75 := Tryz.lays156.z75
  v75 := Tryz.lays156.v75
  t164 := Tryz.lays156.t164
  a164 := Tryz.lays156.a164
  z164 := Tryz.lays156.z164
  v164 := Tryz.lays156.v164 }
theorem writeW (B b : Nat) (bs : List Value) (s : ByteArray) (w : World) (h : Lib.IsBuilder 172 5 B b bs w) (hlen : bs.length + s.size ≤ 140737488355328) (hBw : B ≤ w.heap.size) :
    Calls Tryz.prog 164 #[.pointer (some ⟨b, 0, none⟩), .string s] w fun e w' => e = .returned (.tuple #[.int .i64 s.size, .nilIface]) ∧ (Lib.BuilderAt 172 5 B b (.pointer (some ⟨b, 0, none⟩)) (bs ++ Lib.strCells s) w' ∧ Below B w w') :=
  Go.Proofs.Any.Builder_WriteString lays166w Tryz.Builder_Extra_156 B b bs s w h hlen hBw
theorem builder_later {T e : TypeId} {B b : Nat} {bs : List Value} {w w' : World} (h : Lib.IsBuilder T e B b bs w) (hb : Below w.heap.size w w') : Lib.IsBuilder T e B b bs w' := by
  rcases h with ⟨h1, v, h2, h3, h4⟩ | ⟨h1, v, h2, h3, h4⟩
  · refine .inl ⟨h1, v, (hb.block b (Array.getElem?_eq_some_iff.1 h2).1).trans h2, ⟨h3.1, h3.2.imp id ?_⟩, h4⟩
    rintro ⟨g, cap, cur, e1, e2, e3, e4⟩
    exact ⟨g, cap, cur, e1, e2, (hb.block g (Array.getElem?_eq_some_iff.1 e3).1).trans e3, e4⟩
  · refine .inr ⟨h1, v, (hb.block b (Array.getElem?_eq_some_iff.1 h2).1).trans h2, ⟨h3.1, h3.2.imp id ?_⟩, h4⟩
    rintro ⟨g, cap, cur, e1, e2, e3, e4⟩
    exact ⟨g, cap, cur, e1, e2, (hb.block g (Array.getElem?_eq_some_iff.1 e3).1).trans e3, e4⟩
theorem wrap_wrapY (x : Int) : IntKind.u64.wrap x = ((wrapN x : Nat) : Int) := by
  unfold wrapN
  have e : IntKind.u64.wrap x = x % 18446744073709551616 := by simp [IntKind.wrap, IntKind.bits, IntKind.signed]
  rw [e]
  omega
def boolsV (bs : List Bool) : List Value := bs.map Value.bool
theorem boolsV_at (bs : List Bool) {i : Nat} (h : i < bs.length) : (boolsV bs)[i]? = some (.bool (bs.getD i false)) := by
  unfold boolsV
  rw [List.getElem?_map, List.getElem?_eq_getElem h, List.getD_eq_getElem?_getD, List.getElem?_eq_getElem h]
  rfl
set_option maxRecDepth 20000 in
set_option maxHeartbeats 1600000 in
theorem indexF (bs : List Bool) (o : Option Addr) (cap : Nat) (hn : bs.length ≤ 4096) (w : World) (hx : Hid (IsL w o (boolsV bs))) :
    Calls Tryz.prog 196 #[.slice o bs.length cap, .bool false] w fun r w' => (∃ z : Int, r = .returned (.int .i64 z) ∧ -1 ≤ z ∧ z ≤ 4096 ∧ (0 ≤ z ↔ bs.all id = false)) ∧ w' = w := by
  have HAA : Hid (∀ A, bs.all id = A → bs.all id = A) := fun _ h => h
  generalize hA : bs.all id = A at *
  have HAE : Hid (bs.all id = A) := hA
  clear hA HAA
  generalize hN : bs.length = n at *
  have HN : Hid (bs.length = n) := hN
  clear hN
  go_enter Tryz.func196, Tryz.ntmps196
  go_wp2_with fail
  go_loop [5, 8] (fun _ t => ∃ k : Nat, k ≤ n ∧ t = .int .i64 (k : Int) ∧ ∀ j, j < k → bs.getD j false = true) (fun _ t => n - (intOf t).toNat)
  case atStart => exact ⟨0, Nat.zero_le _, rfl, fun j hj => by omega⟩
  case round =>
    obtain ⟨k, hk, rfl, hall⟩ := hrel
    have HALL : Hid (∀ j, j < k → bs.getD j false = true) := hall
    clear hall
    by_cases hlt : k < n
    · obtain ⟨x, rfl, hxx⟩ := hx.out.some (by unfold boolsV; rw [List.length_map, HN.out]; omega)
      have hcu := hxx k _ (boolsV_at bs (by rw [HN.out]; exact hlt))
      have i0 : (0 : Int) ≤ (k : Int) := Int.natCast_nonneg _
      have i1 : (k : Int) < (n : Int) := by omega
      have HB : Hid (∀ b, bs.getD k false = b → bs.getD k false = b) := fun _ h => h
      have HMEM : Hid (bs.getD k false = false → A = false) := fun h => by
        rw [← HAE.out]
        have hl : k < bs.length := by rw [HN.out]; exact hlt
        have hm : bs.getD k false ∈ bs := by
          rw [List.getD_eq_getElem?_getD, List.getElem?_eq_getElem hl]
          exact List.getElem_mem hl
        rw [h] at hm
        cases c : bs.all id
        · rfl
        · exact absurd (List.all_eq_true.1 c _ hm) (by decide)
      have HNX : Hid (bs.getD k false = true → ∀ j, j < k + 1 → bs.getD j false = true) := fun h j hj => by
        by_cases c : j < k
        · exact HALL.out j c
        · obtain rfl : j = k := by omega
          exact h
      clear hxx
      generalize bs.getD k false = b at *
      cases b
      · have HAF : Hid (A = false) := HMEM.out rfl
        clear HMEM HNX HB
        go_wp2
        go_ret
        exact ⟨⟨(k : Int), rfl, by omega, by omega, fun _ => HAF.out, fun _ => by omega⟩, rfl⟩
      · have HN1 : Hid (∀ j, j < k + 1 → bs.getD j false = true) := HNX.out rfl
        clear HMEM HNX HB
        go_wp2
        go_round
        case rel => exact ⟨k + 1, by omega, by go_num, HN1.out⟩
        case measure => simp [intOf]; omega
    · obtain rfl : k = n := by omega
      have HA : Hid (A = true) := by
        unfold Hid
        rw [← HAE.out]
        refine List.all_eq_true.2 fun b hb => ?_
        obtain ⟨i, hi, rfl⟩ := List.getElem_of_mem hb
        have := HALL.out i (by rw [← HN.out]; exact hi)
        rw [List.getD_eq_getElem?_getD, List.getElem?_eq_getElem hi] at this
        exact this
      go_wp2
      go_ret
      exact ⟨⟨-1, rfl, by omega, by omega, fun c => absurd c (by decide), fun c => by rw [HA.out] at c; cases c⟩, rfl⟩
set_option maxRecDepth 20000 in
theorem containsF (bs : List Bool) (o : Option Addr) (cap : Nat) (hn : bs.length ≤ 4096) (w : World) (hx : Hid (IsL w o (boolsV bs))) :
    Calls Tryz.prog 158 #[.slice o bs.length cap, .bool false] w fun r w' => r = .returned (.bool (!bs.all id)) ∧ w' = w := by
  have HIX : Hid (Calls Tryz.prog 196 #[.slice o bs.length cap, .bool false] w fun r w' => (∃ z : Int, r = .returned (.int .i64 z) ∧ -1 ≤ z ∧ z ≤ 4096 ∧ (0 ≤ z ↔ bs.all id = false)) ∧ w' = w) := indexF bs o cap hn w hx
  generalize bs.all id = A at *
  go_enter Tryz.func158, Tryz.ntmps158
  go_wp2_with fail
  refine HIX.out.mono ?_
  rintro e w1 ⟨⟨z, rfl, h1, h2, h3⟩, rfl⟩
  have HZ : Hid (decide (0 ≤ z) = !A) := by
    unfold Hid
    cases A
    · exact decide_eq_true (h3.2 rfl)
    · exact decide_eq_false (fun y => by cases h3.1 y)
  clear h3
  have hz := HZ.out
  go_wp2
  go_ret
  exact ⟨rfl, rfl⟩
theorem rep_zero (c : Nat) : Lib.repeatL [0] c = List.replicate c 0 := by
  induction c with
  | zero => rfl
  | succ c ih => rw [Lib.repeatL, ih]; rfl
theorem setB_off (l : List UInt8) (k : Nat) (h : BitP.bit l k = false) : BitP.setB l k false = l := by
  by_cases hk : k / 8 < l.length
  · refine BitP.ext _ _ (BitP.length_setB _ _ _) fun i hi => ?_
    rw [BitP.bit_setB l k i false hk]
    split
    · rename_i c
      rw [c, h]
    · rfl
  · unfold BitP.setB
    rw [List.set_eq_of_length_le (by omega)]
theorem ofTo_set (bs : List Bool) {k : Nat} (h : k < bs.length) : BitP.setB (ofTo bs k) k (bs.getD k false) = ofTo bs (k + 1) := by
  rw [ofTo]
  cases c : bs.getD k false
  · rw [if_neg (by decide)]
    refine setB_off _ _ ?_
    rw [bit_ofTo bs k (by omega), if_neg (by omega)]
  · rw [if_pos rfl]
set_option maxRecDepth 20000 in
set_option maxHeartbeats 1600000 in
theorem putBits (bs : List Bool) (o : Option Addr) (cap : Nat) (hn : bs.length ≤ 4096) (w : World) (hx : Hid (IsL w o (boolsV bs))) :
    Calls Tryz.prog 102 #[.slice o bs.length cap] w fun r w' => r = .returned (.string (mk (bitsOf bs))) ∧ Below w.heap.size w w' := by
  have HBO : Hid (ofTo bs bs.length = bitsOf bs) := rfl
  have HLEN : Hid (∀ k, (ofTo bs k).length = (bs.length + 7) / 8) := length_ofTo bs
  have HSET : Hid (∀ k, k < bs.length → BitP.setB (ofTo bs k) k (bs.getD k false) = ofTo bs (k + 1)) := fun k hk => ofTo_set bs hk
  have H0 : Hid (Lib.repeatL [0] ((bs.length + 7) / 8) = ofTo bs 0) := rep_zero _
  generalize hN : bs.length = n at *
  have HN : Hid (bs.length = n) := hN
  have hdiv : ((n : Int) + 7).tdiv 8 = (((n + 7) / 8 : Nat) : Int) := by
    rw [Int.tdiv_eq_ediv_of_nonneg (by omega)]
    omega
  clear hN
  go_enter Tryz.func102, Tryz.ntmps102
  go_wp2_with fail
  refine (Tryz.strings_Repeat ⟨#[0]⟩ ((n + 7) / 8) w (by omega) (by show 1 * _ ≤ _; omega)).mono ?_
  rintro e w1 ⟨rfl, b1⟩
  have B1 : Hid (Below w.heap.size w w1) := b1
  have e0 : (⟨(Lib.repeatL (⟨#[0]⟩ : ByteArray).data.toList ((n + 7) / 8)).toArray⟩ : ByteArray) = mk (ofTo bs 0) := by rw [← H0.out]; rfl
  rw [e0]
  clear b1 e0
  go_wp2_with fail
  go_loopw [3, 4, 5, 13] (fun s _ _ t wr => ∃ k : Nat, k ≤ n ∧ t = .int .i64 (k : Int) ∧ s = .string (mk (ofTo bs k)) ∧ Below w.heap.size w wr) (fun _ _ _ t _ => n - (intOf t).toNat)
  case atStart => exact ⟨0, Nat.zero_le _, rfl, rfl, B1.out⟩
  case round =>
    obtain ⟨k, hk, rfl, rfl, hbl⟩ := hrel
    have BL : Hid (Below w.heap.size w wr) := hbl
    clear hbl
    by_cases hlt : k < n
    · obtain ⟨x, rfl, hxx⟩ := hx.out.some (by unfold boolsV; rw [List.length_map, HN.out]; omega)
      have hcu := cell_later BL.out (hxx k _ (boolsV_at bs (by rw [HN.out]; exact hlt)))
      have i0 : (0 : Int) ≤ (k : Int) := Int.natCast_nonneg _
      have i1 : (k : Int) < (n : Int) := by omega
      have hsz : (mk (ofTo bs k)).size = (n + 7) / 8 := by rw [size_mk, HLEN.out]
      have HS : Hid (BitP.setB (mk (ofTo bs k)).data.toList ((k : Int).toNat) (bs.getD k false) = ofTo bs (k + 1)) := by
        show BitP.setB (bl (mk (ofTo bs k))) _ _ = _
        rw [bl_mk', Int.toNat_natCast]
        exact HSET.out k hlt
      have HC : Hid (∀ v, Calls Tryz.prog 162 #[.string (mk (ofTo bs k)), .int .i64 (k : Int), .bool (bs.getD k false)] v fun r w' => r = .returned (.tuple #[.string (mk (ofTo bs (k + 1))), .int .i64 0]) ∧ Below v.heap.size v w') := fun v => by
        have := Bit.set_yes (mk (ofTo bs k)) (k : Int) (bs.getD k false) v (by rw [hsz]; omega) (by omega) (by rw [hsz]; omega)
        rw [HS.out] at this
        exact this
      clear hxx hsz
      generalize bs.getD k false = b at *
      go_wp2_with fail
      refine (HC.out wr).mono ?_
      rintro e w4 ⟨rfl, b4⟩
      have B4 : Hid (Below w.heap.size w w4) := bel2 BL.out b4
      clear b4
      go_wp2
      go_roundw
      case rel => exact ⟨k + 1, by omega, by go_num, rfl, B4.out⟩
      case measure => simp [intOf]; omega
    · obtain rfl : k = n := by omega
      go_wp2
      go_ret
      rw [← HBO.out]
      exact ⟨rfl, BL.out⟩
/-- Bits of what is there. -/
def validB (bs : List Bool) : List UInt8 := if bs.all id then [] else bitsOf bs
set_option maxRecDepth 20000 in
theorem putValid (bs : List Bool) (o : Option Addr) (cap : Nat) (hn : bs.length ≤ 4096) (w : World) (hx : Hid (IsL w o (boolsV bs))) :
    Calls Tryz.prog 96 #[.slice o bs.length cap] w fun r w' => r = .returned (.string (mk (validB bs))) ∧ Below w.heap.size w w' := by
  have HV : Hid (validB bs = if bs.all id then [] else bitsOf bs) := rfl
  have HPB : Hid (Calls Tryz.prog 102 #[.slice o bs.length cap] w fun r w' => r = .returned (.string (mk (bitsOf bs))) ∧ Below w.heap.size w w') := putBits bs o cap hn w hx
  have HCT : Hid (Calls Tryz.prog 158 #[.slice o bs.length cap, .bool false] w fun r w' => r = .returned (.bool (!bs.all id)) ∧ w' = w) := containsF bs o cap hn w hx
  generalize validB bs = V at *
  generalize bitsOf bs = BO at *
  generalize bs.all id = A at *
  go_enter Tryz.func96, Tryz.ntmps96
  go_wp2_with fail
  refine HCT.out.mono ?_
  rintro e w1 ⟨rfl, rfl⟩
  cases A
  · have HVV : Hid (V = BO) := HV.out.trans (if_neg (by decide))
    go_wp2_with fail
    refine HPB.out.mono ?_
    rintro e w2 ⟨rfl, b2⟩
    have B2 : Hid (Below w1.heap.size w1 w2) := b2
    clear b2
    go_wp2
    go_ret
    rw [HVV.out]
    exact ⟨rfl, B2.out⟩
  · have HVV : Hid (V = []) := HV.out.trans (if_pos rfl)
    go_wp2
    go_ret
    rw [HVV.out]
    exact ⟨rfl, Below.refl _ _⟩
theorem valid_of (vs : List (List UInt8)) : validB (vs.map fun v => decide (v ≠ nullM)) = validOf vs := by
  unfold validB validOf
  have e : (vs.map fun v => decide (v ≠ nullM)).all id = vs.all (fun v => decide (v ≠ nullM)) := by rw [List.all_map]; rfl
  rw [e]
def intsV (xs : List Int) : List Value := xs.map (Value.int .i64)
theorem intsV_at (xs : List Int) {i : Nat} (h : i < xs.length) : (intsV xs)[i]? = some (.int .i64 (xs.getD i 0)) := by
  unfold intsV
  rw [List.getElem?_map, List.getElem?_eq_getElem h, List.getD_eq_getElem?_getD, List.getElem?_eq_getElem h]
  rfl
/-- Numbers in bytes, so many each, the first k. -/
def numsTo (xs : List Int) (c k : Nat) : List UInt8 := ((xs.take k).map fun x => Plain.low (wrapN x) c).flatten
theorem numsTo_succ (xs : List Int) (c : Nat) {k : Nat} (h : k < xs.length) : numsTo xs c (k + 1) = numsTo xs c k ++ Plain.low (wrapN (xs.getD k 0)) c := by
  unfold numsTo
  rw [List.take_add_one, List.getElem?_eq_getElem h, Option.toList_some, List.map_append, List.flatten_append, List.map_singleton, List.flatten_singleton, List.getD_eq_getElem?_getD, List.getElem?_eq_getElem h, Option.getD_some]
theorem length_numsTo (xs : List Int) (c : Nat) : ∀ k, k ≤ xs.length → (numsTo xs c k).length = c * k := by
  intro k
  induction k with
  | zero => intro _; simp [numsTo]
  | succ k ih =>
    intro hk
    rw [numsTo_succ xs c (by omega), List.length_append, ih (by omega), Plain.length_low, Nat.mul_succ]
set_option maxRecDepth 20000 in
set_option maxHeartbeats 1600000 in
theorem putNums (xs : List Int) (c : Nat) (o : Option Addr) (cap : Nat) (hn : xs.length ≤ 4096) (hc : c ≤ 8) (w : World) (hx : Hid (IsL w o (intsV xs)))
    (hput : Hid (∀ k v, k < xs.length → Calls Tryz.prog 197 #[.int .i64 (xs.getD k 0), .int .i64 (c : Int)] v fun r w' => r = .returned (.tuple #[.string (mk (Plain.low (wrapN (xs.getD k 0)) c)), .int .i64 0]) ∧ Below v.heap.size v w')) :
    Calls Tryz.prog 159 #[.slice o xs.length cap, .int .i64 (c : Int)] w fun r w' => r = .returned (.string (mk (numsTo xs c xs.length))) ∧ Below w.heap.size w w' := by
  have HLEN : Hid (∀ k, k ≤ xs.length → (numsTo xs c k).length = c * k) := length_numsTo xs c
  have HSU : Hid (∀ k, k < xs.length → numsTo xs c (k + 1) = numsTo xs c k ++ Plain.low (wrapN (xs.getD k 0)) c) := fun k hk => numsTo_succ xs c hk
  have H0 : Hid (Lib.byteCells (numsTo xs c 0) = []) := rfl
  generalize hN : xs.length = n at *
  have HN : Hid (xs.length = n) := hN
  clear hN
  have hbl1 : Below w.heap.size w (w.alloc (.cells #[.pointer none, .slice none 0 0] 172)) := (Below.refl _ _).alloc (Nat.le_refl _) _
  have hfr : Lib.IsBuilder 172 5 w.heap.size w.heap.size [] (w.alloc (.cells #[.pointer none, .slice none 0 0] 172)) := Lib.fresh_isBuilder 172 5 w
  generalize hw1 : w.alloc (.cells #[.pointer none, .slice none 0 0] 172) = w1 at *
  have BL1 : Hid (Below w.heap.size w w1) := hbl1
  have HB1 : Hid (Lib.IsBuilder 172 5 w.heap.size w.heap.size (Lib.byteCells (numsTo xs c 0)) w1) := by rw [H0.out]; exact hfr
  clear hbl1 hfr
  go_enter Tryz.func159, Tryz.ntmps159
  go_wp2_with fail
  go_loopw [7, 8, 9, 12] (fun _ _ _ t wr => ∃ k : Nat, k ≤ n ∧ t = .int .i64 (k : Int) ∧ Lib.IsBuilder 172 5 w.heap.size w.heap.size (Lib.byteCells (numsTo xs c k)) wr ∧ Below w.heap.size w wr) (fun _ _ _ t _ => n - (intOf t).toNat)
  case atStart => exact ⟨0, Nat.zero_le _, rfl, HB1.out, BL1.out⟩
  case round =>
    obtain ⟨k, hk, rfl, hbd, hbl⟩ := hrel
    have HB : Hid (Lib.IsBuilder 172 5 w.heap.size w.heap.size (Lib.byteCells (numsTo xs c k)) wr) := hbd
    have BL : Hid (Below w.heap.size w wr) := hbl
    clear hbd hbl
    by_cases hlt : k < n
    · obtain ⟨x, rfl, hxx⟩ := hx.out.some (by unfold intsV; rw [List.length_map, HN.out]; omega)
      have hcu := cell_later BL.out (hxx k _ (intsV_at xs (by rw [HN.out]; exact hlt)))
      have i0 : (0 : Int) ≤ (k : Int) := Int.natCast_nonneg _
      have i1 : (k : Int) < (n : Int) := by omega
      have HP := hput.out k wr hlt
      have HPP : Hid (Calls Tryz.prog 197 #[.int .i64 (xs.getD k 0), .int .i64 (c : Int)] wr fun r w' => r = .returned (.tuple #[.string (mk (Plain.low (wrapN (xs.getD k 0)) c)), .int .i64 0]) ∧ Below wr.heap.size wr w') := HP
      have HSK : Hid (numsTo xs c (k + 1) = numsTo xs c k ++ Plain.low (wrapN (xs.getD k 0)) c) := HSU.out k hlt
      have hlen : (Lib.byteCells (numsTo xs c k)).length + (mk (Plain.low (wrapN (xs.getD k 0)) c)).size ≤ 140737488355328 := by
        rw [Lib.byteCells_length, HLEN.out k hk, size_mk, Plain.length_low]
        have : c * k ≤ 8 * 4096 := Nat.mul_le_mul hc (by omega)
        omega
      clear hxx HP hw1
      generalize xs.getD k 0 = z at *
      go_wp2_with fail
      refine HPP.out.mono ?_
      rintro e w4 ⟨rfl, b4⟩
      have HB4 : Hid (Lib.IsBuilder 172 5 w.heap.size w.heap.size (Lib.byteCells (numsTo xs c k)) w4) := builder_later HB.out b4
      have B4 : Hid (Below w.heap.size w w4) := bel2 BL.out b4
      have HLN : Hid ((Lib.byteCells (numsTo xs c k)).length + (mk (Plain.low (wrapN z) c)).size ≤ 140737488355328) := hlen
      clear b4 hlen
      go_wp2_with fail
      refine (writeW w.heap.size w.heap.size _ _ w4 HB4.out HLN.out B4.out.size).mono ?_
      rintro e w5 ⟨rfl, hb5, b5⟩
      have HB5 : Hid (Lib.IsBuilder 172 5 w.heap.size w.heap.size (Lib.byteCells (numsTo xs c (k + 1))) w5) := by
        unfold Hid
        rw [HSK.out, Lib.byteCells_append]
        exact .inr hb5
      have B5 : Hid (Below w.heap.size w w5) := B4.out.trans b5
      clear hb5 b5
      go_wp2
      go_roundw
      case rel => exact ⟨k + 1, by omega, by go_num, HB5.out, B5.out⟩
      case measure => simp [intOf]; omega
    · obtain rfl : k = n := by omega
      clear hw1
      go_wp2_with fail
      refine (Tryz.Builder_String_any w.heap.size w.heap.size (numsTo xs c k) wr HB.out BL.out.size).mono ?_
      rintro e w5 ⟨rfl, b5⟩
      have B5 : Hid (Below w.heap.size w w5) := BL.out.trans b5
      clear b5
      go_wp2
      go_ret
      exact ⟨rfl, B5.out⟩
set_option maxRecDepth 20000 in
theorem putLongs (xs : List Int) (o : Option Addr) (cap : Nat) (hn : xs.length ≤ 4096) (w : World) (hx : Hid (IsL w o (intsV xs))) :
    Calls Tryz.prog 99 #[.slice o xs.length cap] w fun r w' => r = .returned (.string (mk (xs.map fun x => Plain.low (wrapN x) 8).flatten)) ∧ Below w.heap.size w w' := by
  have HP : Hid (Calls Tryz.prog 159 #[.slice o xs.length cap, .int .i64 8] w fun r w' => r = .returned (.string (mk (numsTo xs 8 xs.length))) ∧ Below w.heap.size w w') := putNums xs 8 o cap hn (Nat.le_refl _) w hx fun k v hk => Fix.put8 _ _ (wrap_wrapY _) v
  have HE : Hid (numsTo xs 8 xs.length = (xs.map fun x => Plain.low (wrapN x) 8).flatten) := by unfold Hid numsTo; rw [List.take_length]
  rw [← HE.out]
  generalize numsTo xs 8 xs.length = V at *
  go_enter Tryz.func99, Tryz.ntmps99
  go_wp2_with fail
  refine HP.out.mono ?_
  rintro e w1 ⟨rfl, b1⟩
  have B1 : Hid (Below w.heap.size w w1) := b1
  clear b1
  go_wp2
  go_ret
  exact ⟨rfl, B1.out⟩
set_option maxRecDepth 20000 in
theorem putShorts (xs : List Int) (o : Option Addr) (cap : Nat) (hn : xs.length ≤ 4096) (hs : ∀ k, k < xs.length → 0 ≤ xs.getD k 0 ∧ xs.getD k 0 ≤ 2147483647) (w : World) (hx : Hid (IsL w o (intsV xs))) :
    Calls Tryz.prog 167 #[.slice o xs.length cap] w fun r w' => r = .returned (.string (mk (xs.map fun x => Plain.low (wrapN x) 4).flatten)) ∧ Below w.heap.size w w' := by
  have HP : Hid (Calls Tryz.prog 159 #[.slice o xs.length cap, .int .i64 4] w fun r w' => r = .returned (.string (mk (numsTo xs 4 xs.length))) ∧ Below w.heap.size w w') := putNums xs 4 o cap hn (by decide) w hx fun k v hk => Fix.put4 _ _ (wrap_wrapY _) v (hs k hk).1 (hs k hk).2
  have HE : Hid (numsTo xs 4 xs.length = (xs.map fun x => Plain.low (wrapN x) 4).flatten) := by unfold Hid numsTo; rw [List.take_length]
  rw [← HE.out]
  generalize numsTo xs 4 xs.length = V at *
  go_enter Tryz.func167, Tryz.ntmps167
  go_wp2_with fail
  refine HP.out.mono ?_
  rintro e w1 ⟨rfl, b1⟩
  have B1 : Hid (Below w.heap.size w w1) := b1
  clear b1
  go_wp2
  go_ret
  exact ⟨rfl, B1.out⟩
end Go.Proofs.YtcpfhfdgfcilaaaGreatDoor.Arr
