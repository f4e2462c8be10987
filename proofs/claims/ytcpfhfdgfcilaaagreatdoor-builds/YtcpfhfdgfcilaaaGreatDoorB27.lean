/-
  Several texts in one: What the program's build asks of each value; ends: contracts. · What stands for nothing; a value's parts, by the program's build: contracts.
-/
import Derived.Test.YtcpfhfdgfcilaaaGreatDoorB25
import Derived.Test.YtcpfhfdgfcilaaaGreatDoorB26
import Derived.Test.YtcpfhfdgfcilaaaGreatDoorB12
import Derived.Test.YtcpfhfdgfcilaaaGreatDoorB13
import Derived.Lib.ParseIntBTie
import Derived.Laws.MakeOwn
import Derived.Test.YtcpfhfdgfcilaaaGreatDoorB15
import Derived.Test.YtcpfhfdgfcilaaaGreatDoorB02
import Derived.Test.YtcpfhfdgfcilaaaGreatDoorB16
import Derived.Test.YtcpfhfdgfcilaaaGreatDoorB20
set_option linter.unusedVariables false
set_option linter.unusedSimpArgs false
namespace Go.Proofs.YtcpfhfdgfcilaaaGreatDoor.Arr
open Go.ChangeShapes Go.WideShapes Go.ChangeAt Go.RowKit
open Tree Val Sums

theorem add_zero' (x : Addr) : x.add 0 = x := by unfold Addr.add; split <;> simp_all
set_option maxRecDepth 20000 in
theorem isThereC (s : ByteArray) (w : World) :
    Calls Tryz.prog 98 #[.string s] w fun r w' => r = .returned (.bool (decide (bl s ≠ nullM))) ∧ w' = w := by
  have e1 : s.toList = bl s := ByteArray.toList_eq s
  have e2 : (Val.mk nullM).toList = nullM := by rw [ByteArray.toList_eq]; exact bl_mk' nullM
  have HBB : Hid ((!s.toList == (Val.mk nullM).toList) = decide (bl s ≠ nullM)) := by
    unfold Hid
    rw [e1, e2]
    by_cases c : bl s = nullM
    · rw [decide_eq_false (fun h => h c), c]; simp
    · rw [decide_eq_true c]; simp [c]
  clear e1 e2
  generalize decide (bl s ≠ nullM) = B at *
  go_enter Tryz.func98, Tryz.ntmps98
  go_wp2_with fail
  refine (nullC w).mono ?_
  rintro e w1 ⟨rfl, rfl⟩
  go_wp2
  go_ret
  exact ⟨ret_bool HBB.out, rfl⟩
set_option maxRecDepth 20000 in
theorem numberC (x : Int) (hx : in64 x) (o : Option Addr) (c : Nat) (w : World) (h : Hid (Texts.IsTx w o [mk (intD x)])) :
    Calls Tryz.prog 101 #[.slice o 1 c] w fun r w' => r = .returned (.int .i64 x) ∧ Below w.heap.size w w' := by
  obtain ⟨y, rfl, hy⟩ := tx_at h.out (by simp)
  have hc : w.cell? y = some (.string (mk (intD x))) := by
    have := hy 0 (by simp)
    rwa [add_zero' y] at this
  have HA : Hid (Lib.atoiAll (mk (intD x)).data.toList = .ok x) := by
    unfold Hid
    rw [← Lib.parseIntB_64]
    show Lib.parseIntB 64 (bl (mk (intD x))) = _
    rw [bl_mk']
    exact parse_intD x hx
  have HZ : Hid ((mk (intD x)).size ≤ 9223372036854775806) := by
    unfold Hid
    rw [size_mk]
    have := length_intD x hx
    omega
  clear hy
  generalize mk (intD x) = s at *
  go_enter Tryz.func101, Tryz.ntmps101
  go_wp2_with fail
  refine (Tryz.strconv_Atoi_ok s HZ.out x HA.out w).mono ?_
  rintro e w1 ⟨rfl, hw⟩
  have B1 : Hid (Below w.heap.size w w1) := by
    rcases hw with rfl | ⟨t, rfl⟩
    · exact Below.refl _ _
    · exact Lib.bytesWorld_below _ _ _
  clear hw
  go_wp2
  go_ret
  exact ⟨rfl, B1.out⟩
set_option maxRecDepth 20000 in
theorem truthC (b : Bool) (o : Option Addr) (c : Nat) (w : World) (h : Hid (Texts.IsTx w o [mk (boolM b)])) :
    Calls Tryz.prog 104 #[.slice o 1 c] w fun r w' => r = .returned (.bool b) ∧ Below w.heap.size w w' := by
  obtain ⟨y, rfl, hy⟩ := tx_at h.out (by simp)
  have hc : w.cell? y = some (.string (mk (boolM b))) := by
    have := hy 0 (by simp)
    rwa [add_zero' y] at this
  have HB : Hid (Below w.heap.size w w.drew) := drewN_below w 1
  clear hy
  have e0 : ((mk (boolM false)).toList == (Val.mk (boolM true)).toList) = false := by rw [ByteArray.toList_eq, ByteArray.toList_eq]; decide
  have e1 : ((mk (boolM true)).toList == (Val.mk (boolM true)).toList) = true := by rw [ByteArray.toList_eq, ByteArray.toList_eq]; decide
  have E0 : Hid (((mk (boolM false)).toList == (Val.mk (boolM true)).toList) = false) := e0
  have E1 : Hid (((mk (boolM true)).toList == (Val.mk (boolM true)).toList) = true) := e1
  clear e0 e1
  cases b
  all_goals
    go_enter Tryz.func104, Tryz.ntmps104
    go_wp2_with fail
    go_region_with (go_at_call 143; refine (boolC true _).mono ?_; rintro e w3 ⟨rfl, rfl⟩)
    all_goals
      go_wp2
      go_ret
      first
        | exact ⟨ret_bool E0.out, HB.out⟩
        | exact ⟨ret_bool E1.out, HB.out⟩
set_option maxRecDepth 20000 in
theorem partC (ps : List ByteArray) (i : Nat) (hi : i < ps.length) (o : Option Addr) (c bI : Nat) (w : World) (h : Hid (Texts.IsTx w o ps)) (hb : w.cell? ⟨bI, 0, none⟩ = some (.int .i64 (i : Int))) (hl : ps.length ≤ 4096) :
    Calls Tryz.prog 207 #[.slice o ps.length c, .pointer (some ⟨bI, 0, none⟩)] w fun r w' => r = .returned (.string (ps.getD i ByteArray.empty)) ∧ w' = w := by
  obtain ⟨y, rfl, hy⟩ := tx_at h.out (by omega)
  have hc := hy i hi
  have i0 : (0 : Int) ≤ (i : Int) := Int.natCast_nonneg _
  have i1 : (i : Int) < ((ps.length : Nat) : Int) := by omega
  clear hy
  generalize ps.getD i ByteArray.empty = s at *
  go_enter Tryz.func207, Tryz.ntmps207
  go_wp2
  go_ret
  exact ⟨rfl, rfl⟩
set_option maxRecDepth 20000 in
theorem sizeC (s : ByteArray) (hs : s.size ≤ 4096) (o : Option Addr) (c : Nat) (w : World) (h : Hid (Texts.IsTx w o [s])) :
    Calls Tryz.prog 108 #[.slice o 1 c] w fun r w' => r = .returned (.int .i64 ((s.size : Nat) : Int)) ∧ w' = w := by
  obtain ⟨y, rfl, hy⟩ := tx_at h.out (by simp)
  have hc : w.cell? y = some (.string s) := by
    have := hy 0 (by simp)
    rwa [add_zero' y] at this
  clear hy
  go_enter Tryz.func108, Tryz.ntmps108
  go_wp2
  go_ret
  exact ⟨rfl, rfl⟩
theorem countC (n : Nat) (hn : n ≤ 4096) (o : Option Addr) (c : Nat) (w : World) :
    Calls Tryz.prog 109 #[.slice o n c] w fun r w' => r = .returned (.int .i64 ((n : Nat) : Int)) ∧ w' = w := by
  go_enter Tryz.func109, Tryz.ntmps109
  go_wp2
  go_ret
  exact ⟨rfl, rfl⟩
/-- Sums of sizes; where things end. -/
def sumsY (sz : Nat → Nat) (n : Nat) : List Int := (List.range (n + 1)).map fun i => ((sumTo sz i : Nat) : Int)
def endsY (sz : Nat → Nat) (n : Nat) : List UInt8 := ((List.range (n + 1)).map fun i => Plain.low (sumTo sz i) 4).flatten
theorem sumsY_succ (sz : Nat → Nat) (n : Nat) : sumsY sz (n + 1) = sumsY sz n ++ [((sumTo sz (n + 1) : Nat) : Int)] := by
  unfold sumsY
  rw [List.range_succ (n := n + 1), List.map_append]
  rfl
theorem sumsY_at (sz : Nat → Nat) {n k : Nat} (h : k ≤ n) : (sumsY sz n)[k]? = some ((sumTo sz k : Nat) : Int) := by
  unfold sumsY
  rw [List.getElem?_map, List.getElem?_range (by omega)]
  rfl
theorem sum_le (sz : Nat → Nat) (n : Nat) (h : ∀ k, k < n → sz k ≤ 64) : ∀ k, k ≤ n → sumTo sz k ≤ 64 * k := by
  intro k
  induction k with
  | zero => intro _; exact Nat.le_refl _
  | succ k ih =>
    intro hk
    have h1 := ih (by omega)
    have h2 := h k (by omega)
    rw [sumTo]
    omega
theorem endsY_of (sz : Nat → Nat) (n : Nat) (h : ∀ k, k ≤ n → sumTo sz k ≤ 2147483647) : ((sumsY sz n).map fun x => Plain.low (wrapN x) 4).flatten = endsY sz n := by
  unfold sumsY endsY
  rw [List.map_map]
  congr 1
  refine List.map_congr_left fun i hi => ?_
  have := h i (by have := List.mem_range.1 hi; omega)
  have e : wrapN ((sumTo sz i : Nat) : Int) = sumTo sz i := by unfold wrapN; omega
  show Plain.low (wrapN ((sumTo sz i : Nat) : Int)) 4 = _
  rw [e]
set_option maxRecDepth 20000 in
set_option maxHeartbeats 3200000 in
theorem endsBytes (Ps : List (List ByteArray)) (sz : Nat → Nat) (o : Option Addr) (cap : Nat) (hn : Ps.length ≤ 64) (hsz : Hid (∀ k, k < Ps.length → sz k ≤ 64)) (w : World) (hx : Hid (IsRows w o Ps)) (hstep : Hid (∀ k ok ck v, k < Ps.length → Texts.IsTx v ok (Ps.getD k []) → Calls Tryz.prog 108 #[.slice ok (Ps.getD k []).length ck] v fun r v' => r = .returned (.int .i64 ((sz k : Nat) : Int)) ∧ v' = v)) :
    Calls Tryz.prog 107 #[.slice o Ps.length cap, .func (.func 108) #[] #[]] w fun r w' => r = .returned (.string (mk (endsY sz Ps.length))) ∧ Below w.heap.size w w' := by
  obtain ⟨i3, hi, hz0, hz1, hz2⟩ := info_parts infoY3
  obtain ⟨xs, hxl, hL, hrow⟩ := hx.out
  have HL : Hid (IsL w o xs) := hL
  have HROW : Hid (∀ k x, xs[k]? = some x → ∃ ok ck, x = .slice ok (Ps.getD k []).length ck ∧ (Ps.getD k []).length ≤ ck ∧ Texts.IsTx w ok (Ps.getD k [])) := hrow
  have HXL : Hid (xs.length = Ps.length) := hxl
  have HSB : Hid (∀ k, k ≤ Ps.length → sumTo sz k ≤ 64 * k) := sum_le sz Ps.length hsz.out
  have HEND : Hid (∀ (oo : Option Addr) (cc : Nat) (v : World), IsL v oo (intsV (sumsY sz Ps.length)) → Calls Tryz.prog 167 #[.slice oo (Ps.length + 1) cc] v fun r w' => r = .returned (.string (mk (endsY sz Ps.length))) ∧ Below v.heap.size v w') := fun oo cc v hv => by
    have hl : (sumsY sz Ps.length).length = Ps.length + 1 := by simp [sumsY]
    have := putShorts (sumsY sz Ps.length) oo cc (by rw [hl]; omega) (fun k hk => by
      rw [hl] at hk
      have h1 := sumsY_at sz (n := Ps.length) (k := k) (by omega)
      rw [List.getD_eq_getElem?_getD, h1, Option.getD_some]
      have := sum_le sz Ps.length hsz.out k (by omega)
      omega) v hv
    rw [hl, endsY_of sz Ps.length (fun k hk => by have := sum_le sz Ps.length hsz.out k hk; omega)] at this
    exact this
  clear hL hrow hxl
  generalize hN : Ps.length = n at *
  have HN : Hid (Ps.length = n) := hN
  clear hN
  have own1 : (w.alloc (.cells #[.int .i64 0] 3)).ownsRow w.heap.size 3 1 (.slice (some ⟨w.heap.size, 0, none⟩) 1 1) 1 (intsV (sumsY sz 0)) :=
    ⟨rfl, .inr ⟨w.heap.size, 1, _, rfl, Nat.le_refl _, heap_alloc_new w _, Nat.le_refl _, by decide, rfl, rfl⟩⟩
  have bel1 : Below w.heap.size w (w.alloc (.cells #[.int .i64 0] 3)) := (Below.refl _ _).alloc (Nat.le_refl _) _
  generalize hw1 : w.alloc (.cells #[.int .i64 0] 3) = w1 at *
  have O1 : Hid (w1.ownsRow w.heap.size 3 1 (.slice (some ⟨w.heap.size, 0, none⟩) 1 1) 1 (intsV (sumsY sz 0))) := own1
  have B1 : Hid (Below w.heap.size w w1) := bel1
  clear own1 bel1
  go_enter Tryz.func107, Tryz.ntmps107
  go_wp2_with fail
  try rw [hw1]
  go_loopw [5, 6, 8, 13] (fun s v _ t wr => ∃ (k : Nat) (ov : Option Addr) (cv : Nat), k ≤ n ∧ t = .int .i64 (k : Int) ∧ s = .int .i64 ((sumTo sz k : Nat) : Int) ∧ v = .slice ov (k + 1) cv ∧ wr.ownsRow w.heap.size 3 1 (.slice ov (k + 1) cv) (k + 1) (intsV (sumsY sz k)) ∧ Below w.heap.size w wr) (fun _ _ _ t _ => n - (intOf t).toNat)
  case atStart => exact ⟨0, _, _, Nat.zero_le _, rfl, rfl, rfl, O1.out, B1.out⟩
  case round =>
    obtain ⟨k, ov, cv, hk, rfl, rfl, rfl, hown, hbl⟩ := hrel
    have HOWN : Hid (wr.ownsRow w.heap.size 3 1 (.slice ov (k + 1) cv) (k + 1) (intsV (sumsY sz k))) := hown
    have BL : Hid (Below w.heap.size w wr) := hbl
    clear hown hbl hw1
    have hsb := HSB.out k hk
    by_cases hlt : k < n
    · obtain ⟨x, rfl, hxx⟩ := HL.out.some (by rw [HXL.out]; omega)
      have hkl : k < xs.length := by rw [HXL.out]; exact hlt
      have hu := List.getElem?_eq_getElem hkl
      generalize xs[k] = u at hu
      obtain ⟨ok, ck, rfl, _, htx⟩ := HROW.out k u hu
      have hcu := cell_later BL.out (hxx k _ hu)
      have HST : Hid (Calls Tryz.prog 108 #[.slice ok (Ps.getD k []).length ck] wr fun r v' => r = .returned (.int .i64 ((sz k : Nat) : Int)) ∧ v' = wr) := hstep.out k ok ck wr hlt (htx.later BL.out)
      have i0 : (0 : Int) ≤ (k : Int) := Int.natCast_nonneg _
      have i1 : (k : Int) < (n : Int) := by omega
      have hszk := hsz.out k hlt
      have HSS : Hid (sumTo sz (k + 1) = sumTo sz k + sz k) := rfl
      have HSN : Hid (intsV (sumsY sz (k + 1)) = intsV (sumsY sz k) ++ [.int .i64 ((sumTo sz (k + 1) : Nat) : Int)]) := by
        unfold Hid intsV
        rw [sumsY_succ, List.map_append]
        rfl
      rw [HSS.out] at HSN
      have hz := BL.out.size
      clear hxx hu hkl htx
      generalize Ps.getD k [] = pk at *
      generalize sumTo sz k = sk at *
      generalize sz k = zk at *
      go_wp2_with fail
      refine HST.out.mono ?_
      rintro e w4 ⟨rfl, rfl⟩
      have hown := HOWN.out
      go_wp2_with (at_builtin; refine wpList_append_own _ rfl (.tmp 22) (.tmp 24) 38 rfl w.heap.size 3 i3 (.int .i64 0) 1 8 Tryz.underlying38 hi hz0 hz1 hz2 rfl (by decide) _ (k + 1) _ rfl (hown.alloc _) ⟨w4.heap.size, 0, none⟩ 1 1 [.int .i64 ((sk + zk : Nat) : Int)] rfl rfl ?c1 ?c2 ?c3 ?c4 ?c5 ?_)
      case c1 =>
        intro j u hj
        match j, hj with
        | 0, hj => simp at hj; subst hj; simp [Addr.add]
      case c2 => intro u hu; simp at hu; subst hu; rfl
      case c3 => unfold maxLen; omega
      case c4 => omega
      case c5 => simp; omega
      intro u6 w6 hown6 hgrow _
      have B6 : Hid (Below w.heap.size w w6) := (BL.out.alloc hz _).grown hgrow (by simp; omega) (fun j hj => (hown.lt j hj).1)
      obtain ⟨o6, c6, rfl⟩ := ownsRow_len hown6
      have HO6 : Hid (w6.ownsRow w.heap.size 3 1 (.slice o6 (k + 1 + 1) c6) (k + 1 + 1) (intsV (sumsY sz (k + 1)))) := by
        unfold Hid
        rw [HSN.out]
        exact hown6
      clear hown6 hgrow hown
      go_wp2
      go_roundw
      case rel => exact ⟨k + 1, o6, c6, by omega, by go_num, by rw [HSS.out]; go_num, rfl, HO6.out, B6.out⟩
      case measure => simp [intOf]; omega
    · obtain rfl : k = n := by omega
      have HE1 : Hid (Calls Tryz.prog 167 #[.slice ov (k + 1) cv] wr fun r w' => r = .returned (.string (mk (endsY sz k))) ∧ Below wr.heap.size wr w') := HEND.out ov cv wr (own_isL HOWN.out (by simp [intsV, sumsY]))
      go_wp2_with fail
      refine HE1.out.mono ?_
      rintro e w7 ⟨rfl, b7⟩
      have B7 : Hid (Below w.heap.size w w7) := bel2 BL.out b7
      clear b7
      go_wp2
      go_ret
      exact ⟨rfl, B7.out⟩
set_option maxRecDepth 20000 in
set_option maxHeartbeats 3200000 in
theorem endsLists (Ps : List (List ByteArray)) (sz : Nat → Nat) (o : Option Addr) (cap : Nat) (hn : Ps.length ≤ 64) (hsz : Hid (∀ k, k < Ps.length → sz k ≤ 64)) (w : World) (hx : Hid (IsRows w o Ps)) (hstep : Hid (∀ k ok ck v, k < Ps.length → Texts.IsTx v ok (Ps.getD k []) → Calls Tryz.prog 109 #[.slice ok (Ps.getD k []).length ck] v fun r v' => r = .returned (.int .i64 ((sz k : Nat) : Int)) ∧ v' = v)) :
    Calls Tryz.prog 107 #[.slice o Ps.length cap, .func (.func 109) #[] #[]] w fun r w' => r = .returned (.string (mk (endsY sz Ps.length))) ∧ Below w.heap.size w w' := by
  obtain ⟨i3, hi, hz0, hz1, hz2⟩ := info_parts infoY3
  obtain ⟨xs, hxl, hL, hrow⟩ := hx.out
  have HL : Hid (IsL w o xs) := hL
  have HROW : Hid (∀ k x, xs[k]? = some x → ∃ ok ck, x = .slice ok (Ps.getD k []).length ck ∧ (Ps.getD k []).length ≤ ck ∧ Texts.IsTx w ok (Ps.getD k [])) := hrow
  have HXL : Hid (xs.length = Ps.length) := hxl
  have HSB : Hid (∀ k, k ≤ Ps.length → sumTo sz k ≤ 64 * k) := sum_le sz Ps.length hsz.out
  have HEND : Hid (∀ (oo : Option Addr) (cc : Nat) (v : World), IsL v oo (intsV (sumsY sz Ps.length)) → Calls Tryz.prog 167 #[.slice oo (Ps.length + 1) cc] v fun r w' => r = .returned (.string (mk (endsY sz Ps.length))) ∧ Below v.heap.size v w') := fun oo cc v hv => by
    have hl : (sumsY sz Ps.length).length = Ps.length + 1 := by simp [sumsY]
    have := putShorts (sumsY sz Ps.length) oo cc (by rw [hl]; omega) (fun k hk => by
      rw [hl] at hk
      have h1 := sumsY_at sz (n := Ps.length) (k := k) (by omega)
      rw [List.getD_eq_getElem?_getD, h1, Option.getD_some]
      have := sum_le sz Ps.length hsz.out k (by omega)
      omega) v hv
    rw [hl, endsY_of sz Ps.length (fun k hk => by have := sum_le sz Ps.length hsz.out k hk; omega)] at this
    exact this
  clear hL hrow hxl
  generalize hN : Ps.length = n at *
  have HN : Hid (Ps.length = n) := hN
  clear hN
  have own1 : (w.alloc (.cells #[.int .i64 0] 3)).ownsRow w.heap.size 3 1 (.slice (some ⟨w.heap.size, 0, none⟩) 1 1) 1 (intsV (sumsY sz 0)) :=
    ⟨rfl, .inr ⟨w.heap.size, 1, _, rfl, Nat.le_refl _, heap_alloc_new w _, Nat.le_refl _, by decide, rfl, rfl⟩⟩
  have bel1 : Below w.heap.size w (w.alloc (.cells #[.int .i64 0] 3)) := (Below.refl _ _).alloc (Nat.le_refl _) _
  generalize hw1 : w.alloc (.cells #[.int .i64 0] 3) = w1 at *
  have O1 : Hid (w1.ownsRow w.heap.size 3 1 (.slice (some ⟨w.heap.size, 0, none⟩) 1 1) 1 (intsV (sumsY sz 0))) := own1
  have B1 : Hid (Below w.heap.size w w1) := bel1
  clear own1 bel1
  go_enter Tryz.func107, Tryz.ntmps107
  go_wp2_with fail
  try rw [hw1]
  go_loopw [5, 6, 8, 13] (fun s v _ t wr => ∃ (k : Nat) (ov : Option Addr) (cv : Nat), k ≤ n ∧ t = .int .i64 (k : Int) ∧ s = .int .i64 ((sumTo sz k : Nat) : Int) ∧ v = .slice ov (k + 1) cv ∧ wr.ownsRow w.heap.size 3 1 (.slice ov (k + 1) cv) (k + 1) (intsV (sumsY sz k)) ∧ Below w.heap.size w wr) (fun _ _ _ t _ => n - (intOf t).toNat)
  case atStart => exact ⟨0, _, _, Nat.zero_le _, rfl, rfl, rfl, O1.out, B1.out⟩
  case round =>
    obtain ⟨k, ov, cv, hk, rfl, rfl, rfl, hown, hbl⟩ := hrel
    have HOWN : Hid (wr.ownsRow w.heap.size 3 1 (.slice ov (k + 1) cv) (k + 1) (intsV (sumsY sz k))) := hown
    have BL : Hid (Below w.heap.size w wr) := hbl
    clear hown hbl hw1
    have hsb := HSB.out k hk
    by_cases hlt : k < n
    · obtain ⟨x, rfl, hxx⟩ := HL.out.some (by rw [HXL.out]; omega)
      have hkl : k < xs.length := by rw [HXL.out]; exact hlt
      have hu := List.getElem?_eq_getElem hkl
      generalize xs[k] = u at hu
      obtain ⟨ok, ck, rfl, _, htx⟩ := HROW.out k u hu
      have hcu := cell_later BL.out (hxx k _ hu)
      have HST : Hid (Calls Tryz.prog 109 #[.slice ok (Ps.getD k []).length ck] wr fun r v' => r = .returned (.int .i64 ((sz k : Nat) : Int)) ∧ v' = wr) := hstep.out k ok ck wr hlt (htx.later BL.out)
      have i0 : (0 : Int) ≤ (k : Int) := Int.natCast_nonneg _
      have i1 : (k : Int) < (n : Int) := by omega
      have hszk := hsz.out k hlt
      have HSS : Hid (sumTo sz (k + 1) = sumTo sz k + sz k) := rfl
      have HSN : Hid (intsV (sumsY sz (k + 1)) = intsV (sumsY sz k) ++ [.int .i64 ((sumTo sz (k + 1) : Nat) : Int)]) := by
        unfold Hid intsV
        rw [sumsY_succ, List.map_append]
        rfl
      rw [HSS.out] at HSN
      have hz := BL.out.size
      clear hxx hu hkl htx
      generalize Ps.getD k [] = pk at *
      generalize sumTo sz k = sk at *
      generalize sz k = zk at *
      go_wp2_with fail
      refine HST.out.mono ?_
      rintro e w4 ⟨rfl, rfl⟩
      have hown := HOWN.out
      go_wp2_with (at_builtin; refine wpList_append_own _ rfl (.tmp 22) (.tmp 24) 38 rfl w.heap.size 3 i3 (.int .i64 0) 1 8 Tryz.underlying38 hi hz0 hz1 hz2 rfl (by decide) _ (k + 1) _ rfl (hown.alloc _) ⟨w4.heap.size, 0, none⟩ 1 1 [.int .i64 ((sk + zk : Nat) : Int)] rfl rfl ?c1 ?c2 ?c3 ?c4 ?c5 ?_)
      case c1 =>
        intro j u hj
        match j, hj with
        | 0, hj => simp at hj; subst hj; simp [Addr.add]
      case c2 => intro u hu; simp at hu; subst hu; rfl
      case c3 => unfold maxLen; omega
      case c4 => omega
      case c5 => simp; omega
      intro u6 w6 hown6 hgrow _
      have B6 : Hid (Below w.heap.size w w6) := (BL.out.alloc hz _).grown hgrow (by simp; omega) (fun j hj => (hown.lt j hj).1)
      obtain ⟨o6, c6, rfl⟩ := ownsRow_len hown6
      have HO6 : Hid (w6.ownsRow w.heap.size 3 1 (.slice o6 (k + 1 + 1) c6) (k + 1 + 1) (intsV (sumsY sz (k + 1)))) := by
        unfold Hid
        rw [HSN.out]
        exact hown6
      clear hown6 hgrow hown
      go_wp2
      go_roundw
      case rel => exact ⟨k + 1, o6, c6, by omega, by go_num, by rw [HSS.out]; go_num, rfl, HO6.out, B6.out⟩
      case measure => simp [intOf]; omega
    · obtain rfl : k = n := by omega
      have HE1 : Hid (Calls Tryz.prog 167 #[.slice ov (k + 1) cv] wr fun r w' => r = .returned (.string (mk (endsY sz k))) ∧ Below wr.heap.size wr w') := HEND.out ov cv wr (own_isL HOWN.out (by simp [intsV, sumsY]))
      go_wp2_with fail
      refine HE1.out.mono ?_
      rintro e w7 ⟨rfl, b7⟩
      have B7 : Hid (Below w.heap.size w w7) := bel2 BL.out b7
      clear b7
      go_wp2
      go_ret
      exact ⟨rfl, B7.out⟩
end Go.Proofs.YtcpfhfdgfcilaaaGreatDoor.Arr
set_option linter.unusedVariables false
set_option linter.unusedSimpArgs false
namespace Go.Proofs.YtcpfhfdgfcilaaaGreatDoor.Arr
open Go.ChangeShapes Go.WideShapes Go.ChangeAt Go.RowKit
open Tree Val Sums

/-- What is told in nothing's stead, of nodes so far from the last one. -/
def BlankC (f : Nat) : Prop := ∀ (ns : List Nd) (oT : Option Addr) (capT n : Nat) (w : World), n < ns.length → may ns = true → ns.length - n ≤ f → Home w → IsT w oT ns →
  Calls Tryz.prog 156 #[.agg #[.slice oT ns.length capT], .int .i64 (n : Int)] w fun r w' => r = .returned (.string (mk (blankF ns n))) ∧ Below w.heap.size w w'
theorem zeros_len {ns : List Nd} (hm : May ns) {n : Nat} (hn : n < ns.length) : (flat (told (fun i => zeroF ns 8 (kAt ns n i)) (kids ns n).length)).length ≤ 65536 := by
  have hmost := hm.most
  have hhang := hang_kids hm 3 hn
  have hkid := fun i (hi : i < (kids ns n).length) => zero_ok hm 8 (kAt ns n i) (kid_of hm hi).2.1 (by have := (kid_of hm hi).1; omega)
  have hle := hang_le hm 3 hn
  have hlen : (structM ((List.range (kids ns n).length).map fun i => zeroF ns 8 (kAt ns n i))).length ≤ hang 3 ns n := by
    rw [length_structM, length_flat, hhang, sum_kAt]
    have := sumTo_le (g := fun i => (zeroF ns 8 (kAt ns n i)).length) (h := fun i => hang 3 ns (kAt ns n i)) (kids ns n).length (fun i hi => (hkid i hi).2.1)
    omega
  rw [length_structM] at hlen
  unfold flat
  rw [told_bl]
  omega
theorem own_textsN {w : World} {b c n : Nat} {T : TypeId} {o : Option Addr} {ss : List ByteArray} (h : w.ownsRow b T 1 (.slice o n c) n (Texts.cellsT ss)) (hn : ss.length = n) : Texts.IsTx w o ss := by
  subst hn
  exact Texts.own_texts h
theorem kids_most {ns : List Nd} (hm : May ns) (n : Nat) : (kids ns n).length ≤ 8 := by
  have := length_kidsTo ns n ns.length
  have := hm.most
  unfold kids at *
  omega
set_option maxRecDepth 20000 in
set_option maxHeartbeats 1600000 in
theorem zeroC (f : Nat) (ih : Hid (BlankC f)) (ns : List Nd) (oT : Option Addr) (capT n : Nat) (w : World) (hn : n < ns.length) (hm : may ns = true) (hf : ns.length - n ≤ f) (hw : Hid (Home w)) (ht : Hid (IsT w oT ns)) :
    Calls Tryz.prog 194 #[.agg #[.slice oT ns.length capT], .int .i64 (n : Int)] w fun r w' => r = .returned (.string (mk (zeroF ns 8 n))) ∧ Below w.heap.size w w' := by
  have HZ : Hid (zeroF ns 8 n = if (nd ns n).null then nullM else blankF ns n) := zero_of (may_of hm) hn
  obtain ⟨x, rfl, hl⟩ := ht.out.some (by omega)
  obtain ⟨w1, e1, s1, c1, b1⟩ := boxed w (.slice (some x) ns.length capT) 85
  have B1 : Hid (Below w.heap.size w w1) := b1
  have HBL : Hid (Calls Tryz.prog 156 #[.agg #[.slice (some x) ns.length capT], .int .i64 (n : Int)] w1 fun r w' => r = .returned (.string (mk (blankF ns n))) ∧ Below w1.heap.size w1 w') := ih.out ns (some x) capT n w1 hn hm hf (hw.out.later b1) (ht.out.later b1)
  have cn := (hl.later b1).null' n hn
  have j0 : (0 : Int) ≤ (n : Int) := Int.natCast_nonneg _
  have j1 : (n : Int) < (ns.length : Int) := by omega
  clear b1 hl
  generalize zeroF ns 8 n = Z at *
  generalize blankF ns n = BF at *
  cases hnull : (nd ns n).null
  · have HZZ : Hid (Z = BF) := HZ.out.trans (by rw [hnull]; rfl)
    rw [hnull] at cn
    clear hnull HZ
    go_enter Tryz.func194, Tryz.ntmps194
    go_wp2_with fail
    refine HBL.out.mono ?_
    rintro e w2 ⟨rfl, b2⟩
    have B2 : Hid (Below w.heap.size w w2) := bel2 B1.out b2
    clear b2
    go_wp2
    go_ret
    rw [HZZ.out]
    exact ⟨rfl, B2.out⟩
  · have HZZ : Hid (Z = nullM) := HZ.out.trans (by rw [hnull]; rfl)
    rw [hnull] at cn
    clear hnull HZ
    go_enter Tryz.func194, Tryz.ntmps194
    go_wp2_with fail
    refine (nullC _).mono ?_
    rintro e w2 ⟨rfl, rfl⟩
    go_wp2
    go_ret
    rw [HZZ.out]
    exact ⟨rfl, B1.out⟩
set_option maxRecDepth 20000 in
set_option maxHeartbeats 3200000 in
theorem blank_step (f : Nat) (ih : Hid (BlankC f)) : BlankC (f + 1) := by
  intro ns oT capT n w hn hm hf hw ht
  have HW : Hid (Home w) := hw
  have HT : Hid (IsT w oT ns) := ht
  obtain ⟨x, rfl, hl⟩ := ht.some (by omega)
  obtain ⟨w1, e1, s1, c1, b1⟩ := boxed w (.slice (some x) ns.length capT) 85
  have B1 : Hid (Below w.heap.size w w1) := b1
  have HW1 : Hid (Home w1) := hw.later b1
  have HT1 : Hid (IsT w1 (some x) ns) := ht.later b1
  have ck := (hl.later b1).kind' n hn
  have j0 : (0 : Int) ≤ (n : Int) := Int.natCast_nonneg _
  have j1 : (n : Int) < (ns.length : Int) := by omega
  have hM := may_of hm
  clear b1 hl hw ht s1
  have hin0 : in64 0 := by unfold in64; omega
  rcases kinds hM hn with e | e | e | e | e
  · have HB : Hid (blankF ns n = intM 0) := by unfold Hid blankF; rw [if_pos e]
    rw [e] at ck
    rw [HB.out]
    clear e hM
    go_enter Tryz.func156, Tryz.ntmps156
    go_wp2_with fail
    refine (intC 0 hin0 _ HW1.out).mono ?_
    rintro e w2 ⟨rfl, b2⟩
    have B2 : Hid (Below w.heap.size w w2) := bel2 B1.out b2
    clear b2
    go_wp2
    go_ret
    exact ⟨rfl, B2.out⟩
  · have HB : Hid (blankF ns n = boolM false) := by unfold Hid blankF; rw [if_neg (by omega), if_pos e]
    rw [e] at ck
    rw [HB.out]
    clear e hM
    go_enter Tryz.func156, Tryz.ntmps156
    go_wp2_with fail
    refine (boolC false _).mono ?_
    rintro e w2 ⟨rfl, rfl⟩
    go_wp2
    go_ret
    exact ⟨rfl, B1.out⟩
  · have HB : Hid (blankF ns n = bytesM (bl ⟨#[]⟩)) := by unfold Hid blankF; rw [if_neg (by omega), if_neg (by omega), if_pos e]; rfl
    rw [e] at ck
    rw [HB.out]
    clear e hM
    go_enter Tryz.func156, Tryz.ntmps156
    go_wp2_with fail
    refine (bytesC ⟨#[]⟩ (by decide) _ HW1.out).mono ?_
    rintro e w2 ⟨rfl, b2⟩
    have B2 : Hid (Below w.heap.size w w2) := bel2 B1.out b2
    clear b2
    go_wp2
    go_ret
    exact ⟨rfl, B2.out⟩
  · have HB : Hid (blankF ns n = listM (([] : List ByteArray).map bl)) := by unfold Hid blankF; rw [if_neg (by omega), if_neg (by omega), if_neg (by omega), if_pos e]; rfl
    rw [e] at ck
    rw [HB.out]
    clear e hM
    go_enter Tryz.func156, Tryz.ntmps156
    go_wp2_with fail
    refine (listC none 0 [] (Nat.le_refl _) (by decide) (by decide) _ ⟨by decide, .inl rfl⟩).mono ?_
    rintro e w2 ⟨rfl, b2⟩
    have B2 : Hid (Below w.heap.size w w2) := bel2 B1.out b2
    clear b2
    go_wp2
    go_ret
    exact ⟨rfl, B2.out⟩
  · have HB : Hid (blankF ns n = structM ((told (fun i => zeroF ns 8 (kAt ns n i)) (kids ns n).length).map bl)) := by unfold Hid blankF; rw [if_neg (by omega), if_neg (by omega), if_neg (by omega), if_neg (by omega), told_bl]
    have HKL : Hid ((kids ns n).length ≤ 8) := kids_most hM n
    have HZL : Hid ((flat (told (fun i => zeroF ns 8 (kAt ns n i)) (kids ns n).length)).length ≤ 65536) := zeros_len hM hn
    have HKS : Hid (∀ v, Below w.heap.size w v → Calls Tryz.prog 69 #[.agg #[.slice (some x) ns.length capT], .int .i64 (n : Int)] v fun r w' => ∃ o c, r = .returned (.tuple #[.slice o (kids ns n).length c, .int .i64 0]) ∧ w'.ownsRow v.heap.size 3 1 (.slice o (kids ns n).length c) (kids ns n).length (ints (kids ns n)) ∧ Below v.heap.size v w') := fun v hv => by
      have hB : hasB ns (n : Int) = true := by unfold hasB; rw [hm, decide_eq_true (by omega)]; rfl
      have hKA : kidsA ns (n : Int) = kids ns n := by unfold kidsA; rw [if_pos hB]
      have := kidsP (some x) capT ns (n : Int) v (HT.out.later hv)
      rw [hB, hKA] at this
      exact this
    have HZC : Hid (∀ k v, k < (kids ns n).length → Below w.heap.size w v → Calls Tryz.prog 194 #[.agg #[.slice (some x) ns.length capT], .int .i64 (((kids ns n).getD k 0 : Nat) : Int)] v fun r w' => r = .returned (.string (mk (zeroF ns 8 (kAt ns n k)))) ∧ Below v.heap.size v w') := fun k v hk hv => by
      have h1 := kid_of hM hk
      exact zeroC f ih ns (some x) capT (kAt ns n k) v h1.2.1 hm (by have := h1.1; omega) (HW.out.later hv) (HT.out.later hv)
    rw [e] at ck
    rw [HB.out]
    clear e hM HB
    generalize hG : (fun i => zeroF ns 8 (kAt ns n i)) = G at *
    have HG : Hid (∀ k, zeroF ns 8 (kAt ns n k) = G k) := fun k => by rw [← hG]
    clear hG
    generalize kids ns n = ks at *
    go_enter Tryz.func156, Tryz.ntmps156
    go_wp2_with fail
    refine (HKS.out w1 B1.out).mono ?_
    rintro e w2 ⟨ok, kc, rfl, hown, b2⟩
    have B2 : Hid (Below w.heap.size w w2) := bel2 B1.out b2
    have HLK : Hid (IsL w2 ok (ints ks)) := own_isL hown (by simp [ints])
    have c2 := cell_later b2 c1
    have hil : (ints ks).length = ks.length := by simp [ints]
    have HEA : Hid (Calls Tryz.prog 193 #[.slice ok ks.length kc, .func (.func 194) #[.agg #[.slice (some x) ns.length capT]] #[]] w2 fun r w' => ∃ o' ys, r = .returned (.slice o' ks.length ks.length) ∧ ys.length = ks.length ∧ w'.ownsRow w2.heap.size 9 1 (.slice o' ks.length ks.length) ks.length ys ∧ (∀ k y, ys[k]? = some y → Pure (fun k => .string (mk (G k))) w' k y) ∧ Below w2.heap.size w2 w') := by
      have := eachZero (.agg #[.slice (some x) ns.length capT]) (ints ks) ok kc (by rw [hil]; have := HKL.out; omega) (Pure (fun k => .string (mk (G k)))) w2 (pure_stay _ _) HLK (fun k y v hk hv _ => by
        have hkl : k < ks.length := by
          have := (List.getElem?_eq_some_iff.1 hk).1
          omega
        have hy : y = .int .i64 ((ks.getD k 0 : Nat) : Int) := by
          unfold ints at hk
          rw [List.getElem?_map, List.getElem?_eq_getElem hkl] at hk
          rw [List.getD_eq_getElem?_getD, List.getElem?_eq_getElem hkl]
          exact (Option.some.inj hk).symm
        rw [hy]
        refine (HZC.out k v hkl (bel2 B2.out hv)).mono ?_
        rintro e w5 ⟨rfl, b5⟩
        exact ⟨_, rfl, by show _ = _; rw [HG.out k], b5⟩)
      rw [hil] at this
      exact this
    clear b2 hown hil
    go_wp2_with fail
    refine HEA.out.mono ?_
    rintro e w3 ⟨o3, ys, rfl, hyl, hown3, hpure, b3⟩
    have B3 : Hid (Below w.heap.size w w3) := bel2 B2.out b3
    have hys : ys = Texts.cellsT (told G ks.length) := by
      rw [pure_list hyl hpure]
      unfold Texts.cellsT told
      rw [List.map_map]
      rfl
    have HTX : Hid (Texts.IsTx w3 o3 (told G ks.length)) := by
      rw [hys] at hown3
      exact own_textsN hown3 (length_told G ks.length)
    have HSC : Hid (Calls Tryz.prog 148 #[.slice o3 ks.length ks.length] w3 fun r w' => r = .returned (.string (mk (structM ((told G ks.length).map bl)))) ∧ Below w3.heap.size w3 w') := by
      have := structC o3 ks.length (told G ks.length) (by rw [length_told]; exact Nat.le_refl _) (by have := HZL.out; omega) (by rw [length_told]; have := HKL.out; omega) w3 HTX.out
      rw [length_told] at this
      exact this
    clear hyl hown3 hpure b3 hys
    go_wp2_with fail
    refine HSC.out.mono ?_
    rintro e w4 ⟨rfl, b4⟩
    have B4 : Hid (Below w.heap.size w w4) := bel2 B3.out b4
    clear b4
    go_wp2
    go_ret
    exact ⟨rfl, B4.out⟩
theorem blankAll : ∀ f, BlankC f := by
  intro f
  induction f with
  | zero => intro ns oT capT n w hn hm hf; omega
  | succ f ih => exact blank_step f ih
set_option maxRecDepth 20000 in
set_option maxHeartbeats 1600000 in
theorem partsW {ns : List Nd} {g n : Nat} (oT : Option Addr) (capT : Nat) (s : ByteArray) (w : World) (hn : n < ns.length) (hm : may ns = true) (hs : s.size ≤ 9223372036854775807) (hF : fitsF ns (g + 1) n s = true) (hw : Hid (HomeE w)) (ht : Hid (IsT w oT ns)) :
    Calls Tryz.prog 95 #[.agg #[.slice oT ns.length capT], .int .i64 (n : Int), .string s] w fun r w' => ∃ o c, r = .returned (.slice o (partsB ns n (bl s)).length c) ∧ w'.ownsRow w.heap.size 9 1 (.slice o (partsB ns n (bl s)).length c) (partsB ns n (bl s)).length (Texts.cellsT ((partsB ns n (bl s)).map mk)) ∧ Below w.heap.size w w' := by
  have hM := may_of hm
  obtain ⟨w1, e1, s1, c1, b1⟩ := boxed w (.slice oT ns.length capT) 85
  have B1 : Hid (Below w.heap.size w w1) := b1
  have HPL : Hid (((partsB ns n (bl s)).map mk).length = (partsB ns n (bl s)).length) := List.length_map _
  have HTA : Hid (bl s ≠ nullM → TellA s (tellV (bl s)).1 ((partsB ns n (bl s)).map mk) 0) := fun h => by
    rw [pb_there h]
    exact any_at hF
  have HTB : Hid (bl s = nullM → TellA (mk (blankF ns n)) (nd ns n).kind ((partsB ns n (bl s)).map mk) 0) := fun h => by
    rw [h]
    exact .inl ⟨blank_tell hM hn, rfl⟩
  have HBL : Hid (Calls Tryz.prog 156 #[.agg #[.slice oT ns.length capT], .int .i64 (n : Int)] w1 fun r w' => r = .returned (.string (mk (blankF ns n))) ∧ Below w1.heap.size w1 w') := blankAll 8 ns oT capT n w1 hn hm (by have := hM.most; omega) (hw.out.home.later b1) (ht.out.later b1)
  have HBS : Hid ((mk (blankF ns n)).size ≤ 9223372036854775807) := by
    unfold Hid
    obtain ⟨ps, h1, _⟩ := blank_parts hM hn
    have hv := isVal_of h1
    have := hv.1
    rw [size_mk]
    omega
  have HHE : Hid (∀ v, Below w.heap.size w v → HomeE v) := fun v hv => hw.out.later hv
  clear b1 hF hM
  generalize partsB ns n (bl s) = P at *
  generalize mk (blankF ns n) = BS at *
  generalize (tellV (bl s)).1 = K1 at *
  generalize (nd ns n).kind = K2 at *
  have HPC : Hid (∀ u K v, u.size ≤ 9223372036854775807 → TellA u K (P.map mk) 0 → Below w.heap.size w v → Calls Tryz.prog 157 #[.string u] v fun r w' => ∃ o cap, r = .returned (.tuple #[.int .i64 K, .slice o P.length cap, .int .i64 0]) ∧ w'.ownsRow v.heap.size 9 1 (.slice o P.length cap) P.length (Texts.cellsT (P.map mk)) ∧ Below v.heap.size v w') := fun u K v hu hT hv => by
    have := partsC u K (P.map mk) 0 hu hT v (hw.out.later hv)
    rw [HPL.out] at this
    exact this
  have HIT : Hid (Calls Tryz.prog 98 #[.string s] w1 fun r w' => r = .returned (.bool (decide (bl s ≠ nullM))) ∧ w' = w1) := isThereC s w1
  by_cases hnull : bl s = nullM
  · have HD : Hid (decide (bl s ≠ nullM) = false) := decide_eq_false (fun h => h hnull)
    have HT2 := HTB.out hnull
    have HT3 : Hid (TellA BS K2 (P.map mk) 0) := HT2
    rw [HD.out] at HIT
    clear hnull HT2 HTA HTB HD
    go_enter Tryz.func95, Tryz.ntmps95
    go_wp2_with fail
    refine HIT.out.mono ?_
    rintro e w2 ⟨rfl, rfl⟩
    go_wp2_with fail
    refine HBL.out.mono ?_
    rintro e w3 ⟨rfl, b3⟩
    have B3 : Hid (Below w.heap.size w w3) := bel2 B1.out b3
    clear b3
    go_wp2_with fail
    refine (HPC.out BS K2 w3 HBS.out HT3.out B3.out).mono ?_
    rintro e w4 ⟨o4, c4, rfl, hown, b4⟩
    have H4 : Hid (w4.ownsRow w.heap.size 9 1 (.slice o4 P.length c4) P.length (Texts.cellsT (P.map mk)) ∧ Below w.heap.size w w4) := ⟨own_mono hown B3.out.size, bel2 B3.out b4⟩
    clear hown b4
    go_wp2
    go_ret
    exact ⟨o4, c4, rfl, H4.out⟩
  · have HD : Hid (decide (bl s ≠ nullM) = true) := decide_eq_true hnull
    have HT2 := HTA.out hnull
    have HT3 : Hid (TellA s K1 (P.map mk) 0) := HT2
    rw [HD.out] at HIT
    clear hnull HT2 HTA HTB HD
    go_enter Tryz.func95, Tryz.ntmps95
    go_wp2_with fail
    refine HIT.out.mono ?_
    rintro e w2 ⟨rfl, rfl⟩
    go_wp2_with fail
    refine (HPC.out s K1 w2 hs HT3.out B1.out).mono ?_
    rintro e w4 ⟨o4, c4, rfl, hown, b4⟩
    have H4 : Hid (w4.ownsRow w.heap.size 9 1 (.slice o4 P.length c4) P.length (Texts.cellsT (P.map mk)) ∧ Below w.heap.size w w4) := ⟨own_mono hown B1.out.size, bel2 B1.out b4⟩
    clear hown b4
    go_wp2
    go_ret
    exact ⟨o4, c4, rfl, H4.out⟩
end Go.Proofs.YtcpfhfdgfcilaaaGreatDoor.Arr
