/-
  Several texts in one: What the program's array asks of its rows: contracts. · An array built by the program, of any node: contract.
-/
import Derived.Test.YtcpfhfdgfcilaaaGreatDoorB28
import Derived.Maps.AppendAt
import Derived.OneCell
import Derived.Laws.OwnMore
import Derived.Deep.CutRange
import Derived.Deep.CutBlock
set_option linter.unusedVariables false
set_option linter.unusedSimpArgs false
namespace Go.Proofs.YtcpfhfdgfcilaaaGreatDoor.Arr
open Go.ChangeShapes Go.WideShapes Go.ChangeAt Go.RowKit
open Tree Val Sums

theorem fit_size {ns : List Nd} {g n : Nat} {s : ByteArray} (h : fitsF ns (g + 1) n s = true) : s.size ≤ 9223372036854775807 := by
  have hp := any_at h
  rcases hp with ⟨h1, _⟩ | ⟨_, _, _, h0⟩
  · unfold partsS at h1
    cases c : partsM (bl s) with
    | none => rw [c] at h1; cases h1
    | some y =>
      have := (isVal_of c).1
      rw [bl_length] at this
      omega
  · cases h0
theorem fit_at {ns : List Nd} {g n : Nat} {ss : List ByteArray} (h : AllFit ns (g + 1) n (ss.map bl)) {k : Nat} (hk : k < ss.length) : fitsF ns (g + 1) n (mk (bl (ss.getD k ByteArray.empty))) = true := by
  rw [show mk (bl (ss.getD k ByteArray.empty)) = ss.getD k ByteArray.empty from mk_of _]
  exact all_at h hk
theorem getD_get (ss : List ByteArray) {k : Nat} (hk : k < ss.length) : ss.getD k ByteArray.empty = ss[k] := by
  rw [List.getD_eq_getElem?_getD, List.getElem?_eq_getElem hk]
  rfl
theorem cellsT_len (ss : List ByteArray) : (Texts.cellsT ss).length = ss.length := by simp [Texts.cellsT]
set_option maxRecDepth 20000 in
theorem array1C {ns : List Nd} {g n : Nat} (oT : Option Addr) (capT : Nat) (s : ByteArray) (bB bA : Nat) (w : World) (hn : n < ns.length) (hm : may ns = true) (hF : fitsF ns (g + 1) n s = true) (hw : Hid (HomeE w)) (ht : Hid (IsT w oT ns)) (hB : w.cell? ⟨bB, 0, none⟩ = some (.slice oT ns.length capT)) (hA : w.cell? ⟨bA, 0, none⟩ = some (.int .i64 (n : Int))) :
    Calls Tryz.prog 94 #[.string s, .pointer (some ⟨bB, 0, none⟩), .pointer (some ⟨bA, 0, none⟩)] w fun r w' => ∃ o c, r = .returned (.slice o (partsB ns n (bl s)).length c) ∧ w'.ownsRow w.heap.size 9 1 (.slice o (partsB ns n (bl s)).length c) (partsB ns n (bl s)).length (Texts.cellsT ((partsB ns n (bl s)).map mk)) ∧ Below w.heap.size w w' := by
  have HP : Hid (Calls Tryz.prog 95 #[.agg #[.slice oT ns.length capT], .int .i64 (n : Int), .string s] w fun r w' => ∃ o c, r = .returned (.slice o (partsB ns n (bl s)).length c) ∧ w'.ownsRow w.heap.size 9 1 (.slice o (partsB ns n (bl s)).length c) (partsB ns n (bl s)).length (Texts.cellsT ((partsB ns n (bl s)).map mk)) ∧ Below w.heap.size w w') := partsW oT capT s w hn hm (fit_size hF) hF hw ht
  clear hF hm
  generalize partsB ns n (bl s) = P at *
  go_enter Tryz.func94, Tryz.ntmps94
  go_wp2_with fail
  refine HP.out.mono ?_
  rintro e w2 ⟨o2, c2, rfl, hown, b2⟩
  have H2 : Hid (w2.ownsRow w.heap.size 9 1 (.slice o2 P.length c2) P.length (Texts.cellsT (P.map mk)) ∧ Below w.heap.size w w2) := ⟨hown, b2⟩
  clear hown b2
  go_wp2
  go_ret
  exact ⟨o2, c2, rfl, H2.out⟩
/-- The rows' parts. -/
theorem rowsC {ns : List Nd} {g n : Nat} (oT : Option Addr) (capT : Nat) (ss : List ByteArray) (o : Option Addr) (cap bB bA : Nat) (w : World) (hn : n < ns.length) (hm : may ns = true) (hF : AllFit ns (g + 1) n (ss.map bl)) (h64 : ss.length ≤ 64) (hw : Hid (HomeE w)) (ht : Hid (IsT w oT ns)) (hx : Hid (Texts.IsTx w o ss)) (hB : w.cell? ⟨bB, 0, none⟩ = some (.slice oT ns.length capT)) (hA : w.cell? ⟨bA, 0, none⟩ = some (.int .i64 (n : Int))) :
    Calls Tryz.prog 93 #[.slice o ss.length cap, .func (.func 94) #[] #[.pointer (some ⟨bB, 0, none⟩), .pointer (some ⟨bA, 0, none⟩)]] w fun r w' => ∃ oR, r = .returned (.slice oR ss.length ss.length) ∧ IsRows w' oR (rowsP ns n ss) ∧ Below w.heap.size w w' := by
  have hl := cellsT_len ss
  have := eachRows bB bA (Texts.cellsT ss) o cap (by omega) (TxRow w.heap.size (fun k => (partsB ns n (bl (ss.getD k ByteArray.empty))).map mk)) w (txRow_stay _ _) (tx_isL hx.out) (fun k x v hk hv hlt => by
    have hkl : k < ss.length := by
      have := (List.getElem?_eq_some_iff.1 hk).1
      omega
    rw [Texts.cellsT_at ss k hkl] at hk
    have hxe : x = .string (ss.getD k ByteArray.empty) := (Option.some.inj hk).symm
    rw [hxe]
    refine (array1C (g := g) oT capT _ bB bA v hn hm (all_at hF hkl) (hw.out.later hv) (ht.out.later hv) (cell_later hv hB) (cell_later hv hA)).mono ?_
    rintro e w5 ⟨o5, c5, rfl, hown, b5⟩
    have hpl : ((partsB ns n (bl (ss.getD k ByteArray.empty))).map mk).length = (partsB ns n (bl (ss.getD k ByteArray.empty))).length := List.length_map _
    have hown' := hown
    rw [← hpl] at hown'
    have h5 := own_txA hown' hlt
    rw [hpl] at h5
    refine ⟨o5, _, c5, rfl, ⟨o5, c5, by rw [hpl], ?_, h5.1⟩, b5⟩
    rw [hpl]
    exact h5.2)
  rw [hl] at this
  refine this.mono ?_
  rintro e w' ⟨oR, ys, rfl, hyl, hown, hq, hb⟩
  have hr := txRow_rows hyl hown hq
  have e : (List.range ss.length).map (fun k => (partsB ns n (bl (ss.getD k ByteArray.empty))).map mk) = rowsP ns n ss := by
    refine List.ext_getElem? fun k => ?_
    by_cases hk : k < ss.length
    · unfold rowsP
      rw [List.getElem?_map, List.getElem?_range hk, List.getElem?_map, List.getElem?_eq_getElem hk]
      simp only [Option.map_some, getD_get ss hk]
    · rw [List.getElem?_eq_none (by simp; omega), List.getElem?_eq_none (by simp [rowsP]; omega)]
  rw [e] at hr
  exact ⟨oR, rfl, hr, hb⟩
/-- Which rows are there. -/
theorem thereC (ss : List ByteArray) (o : Option Addr) (cap : Nat) (w : World) (h64 : ss.length ≤ 64) (hx : Hid (Texts.IsTx w o ss)) :
    Calls Tryz.prog 97 #[.slice o ss.length cap, .func (.func 98) #[] #[]] w fun r w' => ∃ oR, r = .returned (.slice oR ss.length ss.length) ∧ IsL w' oR (boolsV ((ss.map bl).map fun v => decide (v ≠ nullM))) ∧ Below w.heap.size w w' := by
  have hl := cellsT_len ss
  have := eachThere (Texts.cellsT ss) o cap (by omega) (Pure (fun k => .bool (decide (bl (ss.getD k ByteArray.empty) ≠ nullM)))) w (pure_stay _ _) (tx_isL hx.out) (fun k x v hk hv hlt => by
    have hkl : k < ss.length := by
      have := (List.getElem?_eq_some_iff.1 hk).1
      omega
    rw [Texts.cellsT_at ss k hkl] at hk
    have hxe : x = .string (ss.getD k ByteArray.empty) := (Option.some.inj hk).symm
    rw [hxe]
    refine (isThereC _ v).mono ?_
    rintro e w5 ⟨rfl, rfl⟩
    exact ⟨_, rfl, rfl, Below.refl _ _⟩)
  rw [hl] at this
  refine this.mono ?_
  rintro e w' ⟨oR, ys, rfl, hyl, hown, hq, hb⟩
  refine ⟨oR, rfl, ?_, hb⟩
  have e : ys = boolsV ((ss.map bl).map fun v => decide (v ≠ nullM)) := by
    rw [pure_list hyl hq]
    refine List.ext_getElem? fun k => ?_
    by_cases hk : k < ss.length
    · unfold boolsV
      rw [List.getElem?_map, List.getElem?_range hk, List.getElem?_map, List.getElem?_map, List.getElem?_map, List.getElem?_eq_getElem hk]
      simp only [Option.map_some, getD_get ss hk]
    · rw [List.getElem?_eq_none (by simp; omega), List.getElem?_eq_none (by simp [boolsV]; omega)]
  rw [← e]
  exact own_isL hown hyl
theorem validC (ss : List ByteArray) (o : Option Addr) (cap : Nat) (w : World) (h64 : ss.length ≤ 64) (hx : Hid (IsL w o (boolsV ((ss.map bl).map fun v => decide (v ≠ nullM))))) :
    Calls Tryz.prog 96 #[.slice o ss.length cap] w fun r w' => r = .returned (.string (mk (validOf (ss.map bl)))) ∧ Below w.heap.size w w' := by
  have hl : ((ss.map bl).map fun v => decide (v ≠ nullM)).length = ss.length := by simp
  have := putValid ((ss.map bl).map fun v => decide (v ≠ nullM)) o cap (by omega) w hx
  rw [hl, valid_of] at this
  exact this
/-- The rows' numbers. -/
def numV (ss : List ByteArray) : List Int := ss.map fun s => intV (bl s)
theorem numsC {ns : List Nd} {g n : Nat} (hn : n < ns.length) (hm : may ns = true) (hk : (nd ns n).kind = 0) (ss : List ByteArray) (oR : Option Addr) (cR : Nat) (w : World) (hF : AllFit ns (g + 1) n (ss.map bl)) (h64 : ss.length ≤ 64) (hR : Hid (IsRows w oR (rowsP ns n ss))) :
    Calls Tryz.prog 100 #[.slice oR ss.length cR, .func (.func 101) #[] #[]] w fun r w' => ∃ o', r = .returned (.slice o' ss.length ss.length) ∧ IsL w' o' (intsV (numV ss)) ∧ Below w.heap.size w w' := by
  have hM := may_of hm
  obtain ⟨xs, hxl, hL, hrow⟩ := hR.out
  have hrl : (rowsP ns n ss).length = ss.length := by simp [rowsP]
  rw [hrl] at hxl
  have := eachInt xs oR cR (by omega) (Pure (fun k => .int .i64 (intV (bl (ss.getD k ByteArray.empty))))) w (pure_stay _ _) hL (fun k y v hk' hv _ => by
    have hkl : k < ss.length := by
      have := (List.getElem?_eq_some_iff.1 hk').1
      omega
    obtain ⟨ok, cok, rfl, _, htx⟩ := hrow k y hk'
    obtain ⟨x, hx, hp, hi⟩ := pb_int hM hn hk (fit_at hF hkl)
    rw [rowsP_at ns n ss hkl, hp] at htx ⊢
    refine (numberC x hx ok cok v (htx.later hv)).mono ?_
    rintro e w5 ⟨rfl, b5⟩
    exact ⟨_, rfl, by show Value.int .i64 x = Value.int .i64 (intV (bl (ss.getD k ByteArray.empty))); rw [hi], b5⟩)
  rw [hxl] at this
  refine this.mono ?_
  rintro e w' ⟨o', ys, rfl, hyl, hown, hq, hb⟩
  refine ⟨o', rfl, ?_, hb⟩
  have e : ys = intsV (numV ss) := by
    rw [pure_list hyl hq]
    refine List.ext_getElem? fun k => ?_
    by_cases hk : k < ss.length
    · unfold intsV numV
      rw [List.getElem?_map, List.getElem?_range hk, List.getElem?_map, List.getElem?_map, List.getElem?_eq_getElem hk]
      simp only [Option.map_some, getD_get ss hk]
    · rw [List.getElem?_eq_none (by simp; omega), List.getElem?_eq_none (by simp [intsV, numV]; omega)]
  rw [← e]
  exact own_isL hown hyl
theorem longsC {ns : List Nd} {n : Nat} (hk : (nd ns n).kind = 0) (ss : List ByteArray) (o : Option Addr) (c : Nat) (w : World) (h64 : ss.length ≤ 64) (hx : Hid (IsL w o (intsV (numV ss)))) :
    Calls Tryz.prog 99 #[.slice o ss.length c] w fun r w' => r = .returned (.string (mk (dataOf ns n (ss.map bl)))) ∧ Below w.heap.size w w' := by
  have hl : (numV ss).length = ss.length := by simp [numV]
  have := putLongs (numV ss) o c (by omega) w hx
  have e : ((numV ss).map fun x => Plain.low (wrapN x) 8).flatten = dataOf ns n (ss.map bl) := by
    unfold dataOf numV
    rw [if_pos hk, List.map_map, List.map_map]
    rfl
  rw [hl, e] at this
  exact this
/-- The rows' truths. -/
theorem truthsC {ns : List Nd} {g n : Nat} (hn : n < ns.length) (hm : may ns = true) (hk : (nd ns n).kind = 1) (ss : List ByteArray) (oR : Option Addr) (cR : Nat) (w : World) (hF : AllFit ns (g + 1) n (ss.map bl)) (h64 : ss.length ≤ 64) (hR : Hid (IsRows w oR (rowsP ns n ss))) :
    Calls Tryz.prog 103 #[.slice oR ss.length cR, .func (.func 104) #[] #[]] w fun r w' => ∃ o', r = .returned (.slice o' ss.length ss.length) ∧ IsL w' o' (boolsV ((ss.map bl).map fun v => decide (v = [116]))) ∧ Below w.heap.size w w' := by
  have hM := may_of hm
  obtain ⟨xs, hxl, hL, hrow⟩ := hR.out
  have hrl : (rowsP ns n ss).length = ss.length := by simp [rowsP]
  rw [hrl] at hxl
  have := eachTruth xs oR cR (by omega) (Pure (fun k => .bool (decide (bl (ss.getD k ByteArray.empty) = [116])))) w (pure_stay _ _) hL (fun k y v hk' hv _ => by
    have hkl : k < ss.length := by
      have := (List.getElem?_eq_some_iff.1 hk').1
      omega
    obtain ⟨ok, cok, rfl, _, htx⟩ := hrow k y hk'
    obtain ⟨x, hp, hi⟩ := pb_bool hM hn hk (fit_at hF hkl)
    rw [rowsP_at ns n ss hkl, hp] at htx ⊢
    refine (truthC x ok cok v (htx.later hv)).mono ?_
    rintro e w5 ⟨rfl, b5⟩
    exact ⟨_, rfl, by show Value.bool x = Value.bool (decide (bl (ss.getD k ByteArray.empty) = [116])); rw [hi], b5⟩)
  rw [hxl] at this
  refine this.mono ?_
  rintro e w' ⟨o', ys, rfl, hyl, hown, hq, hb⟩
  refine ⟨o', rfl, ?_, hb⟩
  have e : ys = boolsV ((ss.map bl).map fun v => decide (v = [116])) := by
    rw [pure_list hyl hq]
    refine List.ext_getElem? fun k => ?_
    by_cases hk : k < ss.length
    · unfold boolsV
      rw [List.getElem?_map, List.getElem?_range hk, List.getElem?_map, List.getElem?_map, List.getElem?_map, List.getElem?_eq_getElem hk]
      simp only [Option.map_some, getD_get ss hk]
    · rw [List.getElem?_eq_none (by simp; omega), List.getElem?_eq_none (by simp [boolsV]; omega)]
  rw [← e]
  exact own_isL hown hyl
theorem bitsC {ns : List Nd} {n : Nat} (hk : (nd ns n).kind = 1) (ss : List ByteArray) (o : Option Addr) (c : Nat) (w : World) (h64 : ss.length ≤ 64) (hx : Hid (IsL w o (boolsV ((ss.map bl).map fun v => decide (v = [116]))))) :
    Calls Tryz.prog 102 #[.slice o ss.length c] w fun r w' => r = .returned (.string (mk (dataOf ns n (ss.map bl)))) ∧ Below w.heap.size w w' := by
  have hl : ((ss.map bl).map fun v => decide (v = [116])).length = ss.length := by simp
  have := putBits ((ss.map bl).map fun v => decide (v = [116])) o c (by omega) w hx
  rw [hl, ← data1_all hk] at this
  exact this
/-- The rows' bytes. -/
theorem joinB {ns : List Nd} {g n : Nat} (hn : n < ns.length) (hm : may ns = true) (hk : (nd ns n).kind = 2) (ss : List ByteArray) (o : Option Addr) (c b0 : Nat) (w : World) (hF : AllFit ns (g + 1) n (ss.map bl)) (h64 : ss.length ≤ 64) (hx : Hid (w.ownsRow b0 9 1 (.slice o (rowsP ns n ss).flatten.length c) (rowsP ns n ss).flatten.length (Texts.cellsT (rowsP ns n ss).flatten))) :
    Calls Tryz.prog 105 #[.slice o (rowsP ns n ss).flatten.length c, .string ⟨#[]⟩] w fun r w' => r = .returned (.string (mk (dataOf ns n (ss.map bl)))) ∧ Below w.heap.size w w' := by
  have hM := may_of hm
  have e : flat (rowsP ns n ss).flatten = dataOf ns n (ss.map bl) := by
    rw [data2_parts hM hn hk hF]
    unfold flat rowsP
    rw [List.map_flatten, List.map_map, List.map_map]
    congr 2
    refine List.map_congr_left fun s _ => ?_
    show ((partsB ns n (bl s)).map mk).map bl = _
    rw [List.map_map, show (bl ∘ mk) = id from funext fun l => bl_mk l, List.map_id]
    rfl
  have hd := (few_fill hM hn hF (by rw [List.length_map]; exact h64)).1
  have hcat := catT_le (rowsP ns n ss) 64 (fun k hk' => by
    have hrl : (rowsP ns n ss).length = ss.length := by simp [rowsP]
    rw [hrl] at hk'
    rw [rowsP_at ns n ss hk', List.length_map]
    exact pb_most hM hn (fit_at hF hk')) (rowsP ns n ss).length (Nat.le_refl _)
  rw [catT_all] at hcat
  have hrl : (rowsP ns n ss).length = ss.length := by simp [rowsP]
  have hc : (rowsP ns n ss).flatten.length ≤ c := by
    rcases hx.out.2 with ⟨h0, h1⟩ | ⟨g', cap', cur, h0, _, _, hle, _⟩
    · rw [h1]; exact Nat.zero_le _
    · injection h0 with _ _ h4
      omega
  have := joinC o c (rowsP ns n ss).flatten hc (by rw [e]; omega) (by omega) w (Texts.own_texts hx.out)
  rw [e] at this
  exact this
theorem catC {ns : List Nd} {g n : Nat} (hn : n < ns.length) (hm : may ns = true) (ss : List ByteArray) (oR : Option Addr) (cR : Nat) (w : World) (hF : AllFit ns (g + 1) n (ss.map bl)) (h64 : ss.length ≤ 64) (hR : Hid (IsRows w oR (rowsP ns n ss))) :
    Calls Tryz.prog 106 #[.slice oR ss.length cR] w fun r w' => ∃ o' c', r = .returned (.slice o' (rowsP ns n ss).flatten.length c') ∧ w'.ownsRow w.heap.size 9 1 (.slice o' (rowsP ns n ss).flatten.length c') (rowsP ns n ss).flatten.length (Texts.cellsT (rowsP ns n ss).flatten) ∧ Below w.heap.size w w' := by
  have hM := may_of hm
  have hrl : (rowsP ns n ss).length = ss.length := by simp [rowsP]
  have := concatT (rowsP ns n ss) oR cR (by rw [hrl]; exact h64) (fun k hk' => by
    rw [hrl] at hk'
    rw [rowsP_at ns n ss hk', List.length_map]
    exact pb_most hM hn (fit_at hF hk')) w hR
  rw [hrl] at this
  exact this
theorem endsY_eq {ns : List Nd} {n : Nat} (hk : (nd ns n).kind = 2 ∨ (nd ns n).kind = 3) (ss : List ByteArray) : endsY (fun j => sizeV ns n ((ss.map bl).getD j [])) ss.length = endsOf ns n (ss.map bl) := by
  unfold endsY endsOf
  rw [if_pos hk, List.length_map]
theorem bl_getD (ss : List ByteArray) {k : Nat} (hk : k < ss.length) : (ss.map bl).getD k [] = bl (ss.getD k ByteArray.empty) := by
  rw [List.getD_eq_getElem?_getD, List.getElem?_map, List.getElem?_eq_getElem hk, List.getD_eq_getElem?_getD, List.getElem?_eq_getElem hk]
  rfl
/-- Where bytes end. -/
theorem ends2C {ns : List Nd} {g n : Nat} (hn : n < ns.length) (hm : may ns = true) (hk : (nd ns n).kind = 2) (ss : List ByteArray) (oR : Option Addr) (cR : Nat) (w : World) (hF : AllFit ns (g + 1) n (ss.map bl)) (h64 : ss.length ≤ 64) (hR : Hid (IsRows w oR (rowsP ns n ss))) :
    Calls Tryz.prog 107 #[.slice oR ss.length cR, .func (.func 108) #[] #[]] w fun r w' => r = .returned (.string (mk (endsOf ns n (ss.map bl)))) ∧ Below w.heap.size w w' := by
  have hM := may_of hm
  have hrl : (rowsP ns n ss).length = ss.length := by simp [rowsP]
  have := endsBytes (rowsP ns n ss) (fun j => sizeV ns n ((ss.map bl).getD j [])) oR cR (by rw [hrl]; exact h64) (fun k hk' => by
    rw [hrl] at hk'
    obtain ⟨s, _, _, h1, h2⟩ := pb_bytes hM hn hk (fit_at hF hk')
    rw [bl_getD ss hk', h2]
    omega) w hR (fun k ok ck v hk' htx => by
    rw [hrl] at hk'
    obtain ⟨s, h0, _, h1, h2⟩ := pb_bytes hM hn hk (fit_at hF hk')
    rw [rowsP_at ns n ss hk', h0] at htx ⊢
    rw [bl_getD ss hk', h2]
    have h3 := sizeC (mk s) (by rw [size_mk]; omega) ok ck v htx
    rw [size_mk] at h3
    exact h3)
  rw [hrl, endsY_eq (.inl hk)] at this
  exact this
/-- Where lists end. -/
theorem ends3C {ns : List Nd} {g n : Nat} (hn : n < ns.length) (hm : may ns = true) (hk : (nd ns n).kind = 3) (ss : List ByteArray) (oR : Option Addr) (cR : Nat) (w : World) (hF : AllFit ns (g + 1) n (ss.map bl)) (h64 : ss.length ≤ 64) (hR : Hid (IsRows w oR (rowsP ns n ss))) :
    Calls Tryz.prog 107 #[.slice oR ss.length cR, .func (.func 109) #[] #[]] w fun r w' => r = .returned (.string (mk (endsOf ns n (ss.map bl)))) ∧ Below w.heap.size w w' := by
  have hM := may_of hm
  have hrl : (rowsP ns n ss).length = ss.length := by simp [rowsP]
  have := endsLists (rowsP ns n ss) (fun j => sizeV ns n ((ss.map bl).getD j [])) oR cR (by rw [hrl]; exact h64) (fun k hk' => by
    rw [hrl] at hk'
    obtain ⟨_, h1, h2⟩ := pb_list hM hn hk (fit_at hF hk')
    rw [bl_getD ss hk', h1]
    exact h2) w hR (fun k ok ck v hk' htx => by
    rw [hrl] at hk'
    obtain ⟨h0, h1, h2⟩ := pb_list hM hn hk (fit_at hF hk')
    rw [bl_getD ss hk', h1, rowsP_at ns n ss hk', List.length_map, h0]
    exact countC _ (by omega) ok ck v)
  rw [hrl, endsY_eq (.inr hk)] at this
  exact this
end Go.Proofs.YtcpfhfdgfcilaaaGreatDoor.Arr
set_option linter.unusedVariables false
set_option linter.unusedSimpArgs false
namespace Go.Proofs.YtcpfhfdgfcilaaaGreatDoor.Arr
open Go.ChangeShapes Go.WideShapes Go.ChangeAt Go.RowKit
open Tree Val Sums

set_option maxRecDepth 20000 in
set_option maxHeartbeats 3200000 in
theorem array_long (B f g : Nat) (ns : List Nd) (oT : Option Addr) (capT n : Nat) (ss : List ByteArray) (o : Option Addr) (cap : Nat) (w : World) (h64 : 64 < ss.length) :
    Calls Tryz.prog 60 #[.agg #[.slice oT ns.length capT], .int .i64 (n : Int), .slice o ss.length cap] w (BuildQ B (f + 1) ns n (ss.map bl) w) := by
  obtain ⟨w1, e1, s1, c1, b1⟩ := boxed w (.slice oT ns.length capT) 85
  obtain ⟨w2, e2, s2, c2, b2⟩ := boxed w1 (.int .i64 (n : Int)) 3
  obtain ⟨w3, e3', x3, b3, z3⟩ := box7 w2 nil none 0
  have e3 : w2.alloc (.cells #[.int .i64 0, .int .i64 0, .int .i64 0, .string ⟨#[]⟩, .string ⟨#[]⟩, .string ⟨#[]⟩, .slice none 0 0] 27) = w3 := e3'
  have B3 : Hid (Below w.heap.size w w3) := bel2 b1 (bel2 b2 b3)
  have XR3 : Hid (Bx w3 w2.heap.size nil none 0) := x3
  have HN : Hid ((buildF ns (f + 1) n (ss.map bl)).isSome = false) := build_most (by rw [List.length_map]; exact h64)
  have q1 : decide ((64 : Int) < ((ss.length : Nat) : Int)) = true := decide_eq_true (by omega)
  have hS1 : w.heap.size < w1.heap.size := s1
  have hS2 : w1.heap.size < w2.heap.size := s2
  clear e3' b1 b2 b3 x3 c1 c2
  have u0 := XR3.out.c0
  have u1 := XR3.out.c1
  have u2 := XR3.out.c2
  have u3 := XR3.out.c3
  have u4 := XR3.out.c4
  have u5 := XR3.out.c5
  have u6 := XR3.out.c6
  have v0 := XR3.out.fz 0
  have v1 := XR3.out.fz 1
  have v2 := XR3.out.fz 2
  have v3 := XR3.out.fz 3
  have v4 := XR3.out.fz 4
  have v5 := XR3.out.fz 5
  have v6 := XR3.out.fz 6
  unfold nil at u0 u1 u2 u3 u4 u5 u6
  obtain ⟨w21, e21, x21, h21, b21⟩ := set7 XR3.out nil none 0
  have e21b : (((((((w3).setCell ⟨w2.heap.size, 0, none⟩ (.int .i64 0)).setCell ⟨w2.heap.size, 1, none⟩ (.int .i64 0)).setCell ⟨w2.heap.size, 2, none⟩ (.int .i64 0)).setCell ⟨w2.heap.size, 3, none⟩ (.string ⟨#[]⟩)).setCell ⟨w2.heap.size, 4, none⟩ (.string ⟨#[]⟩)).setCell ⟨w2.heap.size, 5, none⟩ (.string ⟨#[]⟩)).setCell ⟨w2.heap.size, 6, none⟩ (.slice none 0 0) = w21 := e21
  have HB21 : Hid (Below w.heap.size w w21) := B3.out.trans (b21 w.heap.size (by omega))
  have q0 := x21.c0
  have q1x := x21.c1
  have q2 := x21.c2
  have q3 := x21.c3
  have q4 := x21.c4
  have q5 := x21.c5
  have q6 := x21.c6
  unfold nil at q0 q1x q2 q3 q4 q5 q6
  have HQ : Hid (BuildQ B (f + 1) ns n (ss.map bl) w (.returned (.tuple #[.agg #[.int .i64 0, .int .i64 0, .int .i64 0, .string ⟨#[]⟩, .string ⟨#[]⟩, .string ⟨#[]⟩, .slice none 0 0], .bool false])) w21) := none_done nil none 0 HN.out HB21.out
  clear e21 x21 h21 b21
  go_enter Tryz.func60, Tryz.ntmps60
  go_wp2_with fail
  try rw [e21b]
  exact bodyPost_ret (v := .tuple #[.agg #[.int .i64 0, .int .i64 0, .int .i64 0, .string ⟨#[]⟩, .string ⟨#[]⟩, .string ⟨#[]⟩, .slice none 0 0], .bool false]) (by simp [results, Tryz.results60, go_sem, q0, q1x, q2, q3, q4, q5, q6] <;> rfl) rfl HQ.out
set_option maxRecDepth 20000 in
set_option maxHeartbeats 6400000 in
theorem array_few (B f g : Nat) (hB : 4096 ≤ B) (ih : Hid (ArrayC B f)) (ns : List Nd) (oT : Option Addr) (capT n : Nat) (ss : List ByteArray) (o : Option Addr) (cap : Nat) (w : World) (hn : n < ns.length) (hm : may ns = true) (hf : ns.length - n ≤ f + 1) (hg : ns.length - n ≤ g + 1) (hF : AllFit ns (g + 1) n (ss.map bl)) (h64 : ss.length ≤ 64) (hw : Hid (HomeE w)) (hx : Hid (Texts.IsTx w o ss)) (ht : Hid (IsT w oT ns)) :
    Calls Tryz.prog 60 #[.agg #[.slice oT ns.length capT], .int .i64 (n : Int), .slice o ss.length cap] w (BuildQ B (f + 1) ns n (ss.map bl) w) := by
  have hM := may_of hm
  obtain ⟨x, rfl, hl⟩ := ht.out.some (by omega)
  obtain ⟨w1, e1, s1, c1, b1⟩ := boxed w (.slice (some x) ns.length capT) 85
  obtain ⟨w2, e2, s2, c2, b2⟩ := boxed w1 (.int .i64 (n : Int)) 3
  obtain ⟨w3, e3', x3, b3, z3⟩ := box7 w2 nil none 0
  have e3 : w2.alloc (.cells #[.int .i64 0, .int .i64 0, .int .i64 0, .string ⟨#[]⟩, .string ⟨#[]⟩, .string ⟨#[]⟩, .slice none 0 0] 27) = w3 := e3'
  have B3 : Hid (Below w.heap.size w w3) := bel2 b1 (bel2 b2 b3)
  have XR3 : Hid (Bx w3 w2.heap.size nil none 0) := x3
  have HC3 : Hid (w3.cell? ⟨w.heap.size, 0, none⟩ = some (.slice (some x) ns.length capT)) := cell_later b3 (cell_later b2 c1)
  have HA3 : Hid (w3.cell? ⟨w1.heap.size, 0, none⟩ = some (.int .i64 (n : Int))) := cell_later b3 c2
  have HLI : Hid (Lies w x ns) := hl
  have hS1 : w.heap.size < w1.heap.size := s1
  have hS2 : w1.heap.size < w2.heap.size := s2
  have HS3 : Hid (w2.heap.size < w3.heap.size) := z3
  have HBS : Hid ((buildF ns (f + 1) n (ss.map bl)).isSome = kidsOk ns f n (ss.map bl)) := build_kids hM hn hF (by rw [List.length_map]; exact h64)
  have HER : Hid (Calls Tryz.prog 93 #[.slice o ss.length cap, .func (.func 94) #[] #[.pointer (some ⟨w.heap.size, 0, none⟩), .pointer (some ⟨w1.heap.size, 0, none⟩)]] w3 fun r w' => ∃ oR, r = .returned (.slice oR ss.length ss.length) ∧ IsRows w' oR (rowsP ns n ss) ∧ Below w3.heap.size w3 w') := rowsC (some x) capT ss o cap w.heap.size w1.heap.size w3 hn hm hF h64 (hw.out.later B3.out) (ht.out.later B3.out) (hx.out.later B3.out) HC3.out HA3.out
  have HET : Hid (∀ v, Below w.heap.size w v → Calls Tryz.prog 97 #[.slice o ss.length cap, .func (.func 98) #[] #[]] v fun r w' => ∃ oR, r = .returned (.slice oR ss.length ss.length) ∧ IsL w' oR (boolsV ((ss.map bl).map fun v => decide (v ≠ nullM))) ∧ Below v.heap.size v w') := fun v hv => thereC ss o cap v h64 (hx.out.later hv)
  have HPV : Hid (∀ v oB, IsL v oB (boolsV ((ss.map bl).map fun v => decide (v ≠ nullM))) → Calls Tryz.prog 96 #[.slice oB ss.length ss.length] v fun r w' => r = .returned (.string (mk (validOf (ss.map bl)))) ∧ Below v.heap.size v w') := fun v oB hv => validC ss oB ss.length v h64 hv
  have HKD : Hid (∀ v oR, Below w.heap.size w v → IsRows v oR (rowsP ns n ss) → Calls Tryz.prog 110 #[.agg #[.slice (some x) ns.length capT], .int .i64 (n : Int), .slice oR ss.length ss.length] v (KidsQ B f ns n (ss.map bl) v)) := fun v oR hv hr => kids_step B f hB ih ns (some x) capT n g ss oR ss.length v hn hm hf hg hF h64 (hw.out.later hv) (ht.out.later hv) hr
  have HKL : Hid ((built ns f n (ss.map bl)).kids.length = (kids ns n).length) := built_len ns f n _
  have HEN0 : Hid ((nd ns n).kind ≠ 2 → (nd ns n).kind ≠ 3 → endsOf ns n (ss.map bl) = []) := fun h2 h3 => endsOf_none h2 h3 _
  have HDT0 : Hid ((nd ns n).kind ≠ 0 → (nd ns n).kind ≠ 1 → (nd ns n).kind ≠ 2 → dataOf ns n (ss.map bl) = []) := fun h0 h1 h2 => dataOf_none h0 h1 h2 _
  have H0 : Hid ((nd ns n).kind = 0 → ∀ v oR, IsRows v oR (rowsP ns n ss) → Calls Tryz.prog 100 #[.slice oR ss.length ss.length, .func (.func 101) #[] #[]] v fun r w' => ∃ o', r = .returned (.slice o' ss.length ss.length) ∧ (∀ u, Below w'.heap.size w' u → Calls Tryz.prog 99 #[.slice o' ss.length ss.length] u fun r w' => r = .returned (.string (mk (dataOf ns n (ss.map bl)))) ∧ Below u.heap.size u w') ∧ Below v.heap.size v w') := fun hk v oR hr => by
    refine (numsC hn hm hk ss oR ss.length v hF h64 hr).mono ?_
    rintro e w' ⟨o', rfl, h1, h2⟩
    exact ⟨o', rfl, fun u hu => longsC hk ss o' ss.length u h64 (h1.later hu), h2⟩
  have H1 : Hid ((nd ns n).kind = 1 → ∀ v oR, IsRows v oR (rowsP ns n ss) → Calls Tryz.prog 103 #[.slice oR ss.length ss.length, .func (.func 104) #[] #[]] v fun r w' => ∃ o', r = .returned (.slice o' ss.length ss.length) ∧ (∀ u, Below w'.heap.size w' u → Calls Tryz.prog 102 #[.slice o' ss.length ss.length] u fun r w' => r = .returned (.string (mk (dataOf ns n (ss.map bl)))) ∧ Below u.heap.size u w') ∧ Below v.heap.size v w') := fun hk v oR hr => by
    refine (truthsC hn hm hk ss oR ss.length v hF h64 hr).mono ?_
    rintro e w' ⟨o', rfl, h1, h2⟩
    exact ⟨o', rfl, fun u hu => bitsC hk ss o' ss.length u h64 (h1.later hu), h2⟩
  have H2 : Hid ((nd ns n).kind = 2 → ∀ v oR, IsRows v oR (rowsP ns n ss) → Calls Tryz.prog 106 #[.slice oR ss.length ss.length] v fun r w' => ∃ o' L' c', r = .returned (.slice o' L' c') ∧ (Calls Tryz.prog 105 #[.slice o' L' c', .string ⟨#[]⟩] w' fun r w'' => r = .returned (.string (mk (dataOf ns n (ss.map bl)))) ∧ Below w'.heap.size w' w'') ∧ Below v.heap.size v w') := fun hk v oR hr => by
    refine (catC hn hm ss oR ss.length v hF h64 hr).mono ?_
    rintro e w' ⟨o', c', rfl, h1, h2⟩
    exact ⟨o', _, c', rfl, joinB hn hm hk ss o' c' v.heap.size w' hF h64 h1, h2⟩
  have H2E : Hid ((nd ns n).kind = 2 → ∀ v oR, IsRows v oR (rowsP ns n ss) → Calls Tryz.prog 107 #[.slice oR ss.length ss.length, .func (.func 108) #[] #[]] v fun r w' => r = .returned (.string (mk (endsOf ns n (ss.map bl)))) ∧ Below v.heap.size v w') := fun hk v oR hr => ends2C hn hm hk ss oR ss.length v hF h64 hr
  have H3E : Hid ((nd ns n).kind = 3 → ∀ v oR, IsRows v oR (rowsP ns n ss) → Calls Tryz.prog 107 #[.slice oR ss.length ss.length, .func (.func 109) #[] #[]] v fun r w' => r = .returned (.string (mk (endsOf ns n (ss.map bl)))) ∧ Below v.heap.size v w') := fun hk v oR hr => ends3C hn hm hk ss oR ss.length v hF h64 hr
  have HKIND := kinds hM hn
  have HDONE : Hid (∀ oK cK v w', (buildF ns (f + 1) n (ss.map bl)).isSome = true → Below w.heap.size w w' → (built ns f n (ss.map bl)).val oK cK = v → HoldsO B w' (f + 1) (fun b => w.heap.size ≤ b) ((built ns f n (ss.map bl)).cells oK cK) (built ns f n (ss.map bl)) → BuildQ B (f + 1) ns n (ss.map bl) w (.returned (.tuple #[v, .bool true])) w') := fun oK cK v w' h1 h2 h3 h4 => kids_done h1 h2 h3 h4
  have HOKB : Hid ((buildF ns (f + 1) n (ss.map bl)).isSome = true → (built ns f n (ss.map bl)).ok B) := fun h => by
    obtain ⟨a, ha⟩ := Option.isSome_iff_exists.1 h
    have := ok_built hB ha
    rw [(build_some ha).1] at this
    exact this
  have HVAL : Hid (∀ oK cK, (built ns f n (ss.map bl)).val oK cK = .agg #[.int .i64 0, .int .i64 0, .int .i64 ((ss.length : Nat) : Int), .string (mk (validOf (ss.map bl))), .string (mk (endsOf ns n (ss.map bl))), .string (mk (dataOf ns n (ss.map bl))), .slice oK (kids ns n).length cK]) := fun oK cK => by
    unfold Arr.val
    rw [HKL.out]
    unfold built
    simp only [List.length_map]
  have j0 : (0 : Int) ≤ (n : Int) := Int.natCast_nonneg _
  have j1 : (n : Int) < (ns.length : Int) := by omega
  have q1 : decide ((64 : Int) < ((ss.length : Nat) : Int)) = false := decide_eq_false (by omega)
  have hlen0 : (0 : Int) ≤ ((ss.length : Nat) : Int) := Int.natCast_nonneg _
  clear e3' b1 b2 b3 x3 c1 c2 hl hM hF hm ih hf hg z3
  generalize validOf (ss.map bl) = vd at *
  generalize endsOf ns n (ss.map bl) = en at *
  generalize dataOf ns n (ss.map bl) = dt at *
  generalize hKK : (kids ns n).length = M at *
  have HKLM : Hid ((built ns f n (ss.map bl)).kids.length = M) := HKL.out
  clear HKL
  go_enter Tryz.func60, Tryz.ntmps60
  go_wp2_with fail
  refine HER.out.mono ?_
  rintro e w4 ⟨oR, rfl, hr, b4⟩
  have B4 : Hid (Below w.heap.size w w4) := bel2 B3.out b4
  have B34 : Hid (Below w3.heap.size w3 w4) := b4
  have HR4 : Hid (IsRows w4 oR (rowsP ns n ss)) := hr
  clear hr b4 e1 e2 e3 HER
  go_wp2_with fail
  refine (HET.out w4 B4.out).mono ?_
  rintro e w5 ⟨oB, rfl, hb5, b5⟩
  have HPV5 : Hid (Calls Tryz.prog 96 #[.slice oB ss.length ss.length] w5 fun r w' => r = .returned (.string (mk vd)) ∧ Below w5.heap.size w5 w') := HPV.out w5 oB hb5
  have B45 : Hid (Below w4.heap.size w4 w5) := b5
  clear hb5 b5 HET HPV
  go_wp2_with fail
  refine HPV5.out.mono ?_
  rintro e w6 ⟨rfl, b6⟩
  have B46 : Hid (Below w4.heap.size w4 w6) := bel2 B45.out b6
  clear b6 HPV5 B45
  obtain ⟨w7, e7', x7, b7, z7⟩ := box7 w6 nil none 0
  have e7 : w6.alloc (.cells #[.int .i64 0, .int .i64 0, .int .i64 0, .string ⟨#[]⟩, .string ⟨#[]⟩, .string ⟨#[]⟩, .slice none 0 0] 27) = w7 := e7'
  have m0 := x7.c0
  have m1 := x7.c1
  have m2 := x7.c2
  have m3 := x7.c3
  have m4 := x7.c4
  have m5 := x7.c5
  have m6 := x7.c6
  have f0 := x7.fz 0
  have f1 := x7.fz 1
  have f2 := x7.fz 2
  have f3 := x7.fz 3
  have f4 := x7.fz 4
  have f5 := x7.fz 5
  have f6 := x7.fz 6
  unfold nil at m0 m1 m2 m3 m4 m5 m6
  obtain ⟨w8, e8, x8, h8, k8⟩ := set7 x7 ⟨0, 0, ((ss.length : Nat) : Int), mk vd, ⟨#[]⟩, ⟨#[]⟩, []⟩ none 0
  have e8' : (((((((w7).setCell ⟨w6.heap.size, 0, none⟩ (.int .i64 0)).setCell ⟨w6.heap.size, 1, none⟩ (.int .i64 0)).setCell ⟨w6.heap.size, 2, none⟩ (.int .i64 ((ss.length : Nat) : Int))).setCell ⟨w6.heap.size, 3, none⟩ (.string (mk vd))).setCell ⟨w6.heap.size, 4, none⟩ (.string ⟨#[]⟩)).setCell ⟨w6.heap.size, 5, none⟩ (.string ⟨#[]⟩)).setCell ⟨w6.heap.size, 6, none⟩ (.slice none 0 0) = w8 := e8
  have B48 : Hid (Below w4.heap.size w4 w8) := (bel2 B46.out b7).trans (k8 w4.heap.size B46.out.size)
  have HZ7 : Hid (w6.heap.size < w7.heap.size ∧ w7.heap.size ≤ w8.heap.size) := ⟨z7, (k8 0 (Nat.zero_le _)).size⟩
  have X8 : Hid (Bx w8 w6.heap.size ⟨0, 0, ((ss.length : Nat) : Int), mk vd, ⟨#[]⟩, ⟨#[]⟩, []⟩ none 0) := x8
  go_upto_region 5 with fail
  try rw [e8']
  clear e7 e7' x7 b7 m0 m1 m2 m3 m4 m5 m6 f0 f1 f2 f3 f4 f5 f6 e8 e8' x8 h8 k8 z7
  have B8 : Hid (Below w.heap.size w w8) := bel2 B4.out B48.out
  have HC8 : Hid (w8.cell? ⟨w.heap.size, 0, none⟩ = some (.slice (some x) ns.length capT)) := cell_later (bel2 B34.out B48.out) HC3.out
  have HA8 : Hid (w8.cell? ⟨w1.heap.size, 0, none⟩ = some (.int .i64 (n : Int))) := cell_later (bel2 B34.out B48.out) HA3.out
  have XR8 : Hid (Bx w8 w2.heap.size nil none 0) := XR3.out.later (bel2 B34.out B48.out)
  have HR8 : Hid (IsRows w8 oR (rowsP ns n ss)) := HR4.out.later B48.out
  have hS6 : w2.heap.size < w6.heap.size := by have h1 := HS3.out; have h2 := B34.out.size; have h3 := B46.out.size; omega
  have ck := (HLI.out.later B8.out).kind' n hn
  have cT := HC8.out
  have cA := HA8.out
  have HZ46 : Hid (w4.heap.size ≤ w6.heap.size) := B46.out.size
  clear HC3 HA3 XR3 B34 B46 HS3
  generalize hKd : (nd ns n).kind = K at *
  clear hKd
  go_upto_block 0 with fail
  go_cut [] from 32 (fun wx => Bx wx w6.heap.size ⟨0, 0, ((ss.length : Nat) : Int), mk vd, mk en, mk dt, []⟩ none 0 ∧ Kept (fun q => q = w6.heap.size) w8 wx)
  case first =>
    rcases HKIND with e | e | e | e | e
    · have HC := H0.out e w8 oR HR8.out
      have HCL : Hid (Calls Tryz.prog 100 #[.slice oR ss.length ss.length, .func (.func 101) #[] #[]] w8 fun r w' => ∃ o', r = .returned (.slice o' ss.length ss.length) ∧ (∀ u, Below w'.heap.size w' u → Calls Tryz.prog 99 #[.slice o' ss.length ss.length] u fun r w' => r = .returned (.string (mk dt)) ∧ Below u.heap.size u w') ∧ Below w8.heap.size w8 w') := HC
      have HE : Hid (en = []) := HEN0.out (by omega) (by omega)
      have qk0 : (K == 0) = true := by rw [e]; rfl
      subst e
      clear HC cT cA ck
      go_wp2_with fail
      refine HCL.out.mono ?_
      rintro e w9 ⟨o9, rfl, h9, b9⟩
      have H9 : Hid (Calls Tryz.prog 99 #[.slice o9 ss.length ss.length] w9 fun r w' => r = .returned (.string (mk dt)) ∧ Below w9.heap.size w9 w') := h9 w9 (Below.refl _ _)
      have B89 : Hid (Below w8.heap.size w8 w9) := b9
      clear h9 b9
      go_wp2_with fail
      refine H9.out.mono ?_
      rintro e w10 ⟨rfl, b10⟩
      have B810 : Hid (Below w8.heap.size w8 w10) := bel2 B89.out b10
      have X10 : Hid (Bx w10 w6.heap.size ⟨0, 0, ((ss.length : Nat) : Int), mk vd, ⟨#[]⟩, ⟨#[]⟩, []⟩ none 0) := X8.out.later B810.out
      have d5 := X10.out.c5
      have d5b : w10.cell? ⟨w6.heap.size, 5, none⟩ = some (.string ⟨#[]⟩) := d5
      have f5 := X10.out.fz 5
      obtain ⟨w11, e11, x11, k11, h11⟩ := X10.out.set5 (mk dt)
      have X11 : Hid (Bx w11 w6.heap.size ⟨0, 0, ((ss.length : Nat) : Int), mk vd, mk en, mk dt, []⟩ none 0) := by rw [HE.out]; exact x11
      have K11 : Hid (Kept (fun q => q = w6.heap.size) w8 w11) := k11 _ _ rfl ((Kept.refl _ _).below B810.out)
      clear b10 x11 k11 h11 d5
      go_wp2_with fail
      try rw [e11]
      go_meet
      case rel => exact ⟨X11.out, K11.out⟩
    · have HC := H1.out e w8 oR HR8.out
      have HCL : Hid (Calls Tryz.prog 103 #[.slice oR ss.length ss.length, .func (.func 104) #[] #[]] w8 fun r w' => ∃ o', r = .returned (.slice o' ss.length ss.length) ∧ (∀ u, Below w'.heap.size w' u → Calls Tryz.prog 102 #[.slice o' ss.length ss.length] u fun r w' => r = .returned (.string (mk dt)) ∧ Below u.heap.size u w') ∧ Below w8.heap.size w8 w') := HC
      have HE : Hid (en = []) := HEN0.out (by omega) (by omega)
      have qk0 : (K == 0) = false := by rw [e]; rfl
      have qk1 : (K == 1) = true := by rw [e]; rfl
      subst e
      clear HC cT cA ck
      go_wp2_with fail
      refine HCL.out.mono ?_
      rintro e w9 ⟨o9, rfl, h9, b9⟩
      have H9 : Hid (Calls Tryz.prog 102 #[.slice o9 ss.length ss.length] w9 fun r w' => r = .returned (.string (mk dt)) ∧ Below w9.heap.size w9 w') := h9 w9 (Below.refl _ _)
      have B89 : Hid (Below w8.heap.size w8 w9) := b9
      clear h9 b9
      go_wp2_with fail
      refine H9.out.mono ?_
      rintro e w10 ⟨rfl, b10⟩
      have B810 : Hid (Below w8.heap.size w8 w10) := bel2 B89.out b10
      have X10 : Hid (Bx w10 w6.heap.size ⟨0, 0, ((ss.length : Nat) : Int), mk vd, ⟨#[]⟩, ⟨#[]⟩, []⟩ none 0) := X8.out.later B810.out
      have d5 := X10.out.c5
      have d5b : w10.cell? ⟨w6.heap.size, 5, none⟩ = some (.string ⟨#[]⟩) := d5
      have f5 := X10.out.fz 5
      obtain ⟨w11, e11, x11, k11, h11⟩ := X10.out.set5 (mk dt)
      have X11 : Hid (Bx w11 w6.heap.size ⟨0, 0, ((ss.length : Nat) : Int), mk vd, mk en, mk dt, []⟩ none 0) := by rw [HE.out]; exact x11
      have K11 : Hid (Kept (fun q => q = w6.heap.size) w8 w11) := k11 _ _ rfl ((Kept.refl _ _).below B810.out)
      clear b10 x11 k11 h11 d5
      go_wp2_with fail
      try rw [e11]
      go_meet
      case rel => exact ⟨X11.out, K11.out⟩
    · have HC := H2.out e w8 oR HR8.out
      have HCL : Hid (Calls Tryz.prog 106 #[.slice oR ss.length ss.length] w8 fun r w' => ∃ o' L' c', r = .returned (.slice o' L' c') ∧ (Calls Tryz.prog 105 #[.slice o' L' c', .string ⟨#[]⟩] w' fun r w'' => r = .returned (.string (mk dt)) ∧ Below w'.heap.size w' w'') ∧ Below w8.heap.size w8 w') := HC
      have HCE : Hid (∀ v oR, IsRows v oR (rowsP ns n ss) → Calls Tryz.prog 107 #[.slice oR ss.length ss.length, .func (.func 108) #[] #[]] v fun r w' => r = .returned (.string (mk en)) ∧ Below v.heap.size v w') := H2E.out e
      have qk0 : (K == 0) = false := by rw [e]; rfl
      have qk1 : (K == 1) = false := by rw [e]; rfl
      have qk2 : (K == 2) = true := by rw [e]; rfl
      subst e
      clear HC cT cA ck
      go_wp2_with fail
      refine HCL.out.mono ?_
      rintro e w9 ⟨o9, L9, c9, rfl, h9, b9⟩
      have H9 : Hid (Calls Tryz.prog 105 #[.slice o9 L9 c9, .string ⟨#[]⟩] w9 fun r w' => r = .returned (.string (mk dt)) ∧ Below w9.heap.size w9 w') := h9
      have B89 : Hid (Below w8.heap.size w8 w9) := b9
      clear h9 b9
      go_wp2_with fail
      refine H9.out.mono ?_
      rintro e w10 ⟨rfl, b10⟩
      have B810 : Hid (Below w8.heap.size w8 w10) := bel2 B89.out b10
      have X10 : Hid (Bx w10 w6.heap.size ⟨0, 0, ((ss.length : Nat) : Int), mk vd, ⟨#[]⟩, ⟨#[]⟩, []⟩ none 0) := X8.out.later B810.out
      have d5 := X10.out.c5
      have d5b : w10.cell? ⟨w6.heap.size, 5, none⟩ = some (.string ⟨#[]⟩) := d5
      have f5 := X10.out.fz 5
      obtain ⟨w11, e11, x11, k11, h11⟩ := X10.out.set5 (mk dt)
      have X11 : Hid (Bx w11 w6.heap.size ⟨0, 0, ((ss.length : Nat) : Int), mk vd, ⟨#[]⟩, mk dt, []⟩ none 0) := x11
      have K11 : Hid (Kept (fun q => q = w6.heap.size) w8 w11) := k11 _ _ rfl ((Kept.refl _ _).below B810.out)
      have HR11 : Hid (IsRows w11 oR (rowsP ns n ss)) := HR4.out.later (K11.out.down B48.out (fun q hq => by rw [hq]; exact HZ46.out))
      clear b10 x11 k11 h11 d5
      go_upto_region 12 with fail
      try rw [e11]
      clear e11
      go_wp2_with fail
      refine (HCE.out w11 oR HR11.out).mono ?_
      rintro e w12 ⟨rfl, b12⟩
      have X12 : Hid (Bx w12 w6.heap.size ⟨0, 0, ((ss.length : Nat) : Int), mk vd, ⟨#[]⟩, mk dt, []⟩ none 0) := X11.out.later b12
      have K12 : Hid (Kept (fun q => q = w6.heap.size) w8 w12) := K11.out.below b12
      have d4 := X12.out.c4
      have d4b : w12.cell? ⟨w6.heap.size, 4, none⟩ = some (.string ⟨#[]⟩) := d4
      have f4 := X12.out.fz 4
      obtain ⟨w13, e13, x13, k13, h13⟩ := X12.out.set4 (mk en)
      have X13 : Hid (Bx w13 w6.heap.size ⟨0, 0, ((ss.length : Nat) : Int), mk vd, mk en, mk dt, []⟩ none 0) := x13
      have K13 : Hid (Kept (fun q => q = w6.heap.size) w8 w13) := k13 _ _ rfl K12.out
      clear b12 x13 k13 h13 d4
      go_wp2_with fail
      try rw [e13]
      go_meet
      case rel => exact ⟨X13.out, K13.out⟩
    · have HCE : Hid (∀ v oR, IsRows v oR (rowsP ns n ss) → Calls Tryz.prog 107 #[.slice oR ss.length ss.length, .func (.func 109) #[] #[]] v fun r w' => r = .returned (.string (mk en)) ∧ Below v.heap.size v w') := H3E.out e
      have HD : Hid (dt = []) := HDT0.out (by omega) (by omega) (by omega)
      have qk0 : (K == 0) = false := by rw [e]; rfl
      have qk1 : (K == 1) = false := by rw [e]; rfl
      have qk2 : (K == 2) = false := by rw [e]; rfl
      have qk3 : (K == 3) = true := by rw [e]; rfl
      subst e
      clear cT cA ck
      go_wp2_with fail
      refine (HCE.out w8 oR HR8.out).mono ?_
      rintro e w12 ⟨rfl, b12⟩
      have X12 : Hid (Bx w12 w6.heap.size ⟨0, 0, ((ss.length : Nat) : Int), mk vd, ⟨#[]⟩, ⟨#[]⟩, []⟩ none 0) := X8.out.later b12
      have K12 : Hid (Kept (fun q => q = w6.heap.size) w8 w12) := (Kept.refl _ _).below b12
      have d4 := X12.out.c4
      have d4b : w12.cell? ⟨w6.heap.size, 4, none⟩ = some (.string ⟨#[]⟩) := d4
      have f4 := X12.out.fz 4
      obtain ⟨w13, e13, x13, k13, h13⟩ := X12.out.set4 (mk en)
      have X13 : Hid (Bx w13 w6.heap.size ⟨0, 0, ((ss.length : Nat) : Int), mk vd, mk en, mk dt, []⟩ none 0) := by rw [HD.out]; exact x13
      have K13 : Hid (Kept (fun q => q = w6.heap.size) w8 w13) := k13 _ _ rfl K12.out
      clear b12 x13 k13 h13 d4
      go_wp2_with fail
      try rw [e13]
      go_meet
      case rel => exact ⟨X13.out, K13.out⟩
    · have HE : Hid (en = []) := HEN0.out (by omega) (by omega)
      have HD : Hid (dt = []) := HDT0.out (by omega) (by omega) (by omega)
      have qk0 : (K == 0) = false := by rw [e]; rfl
      have qk1 : (K == 1) = false := by rw [e]; rfl
      have qk2 : (K == 2) = false := by rw [e]; rfl
      have qk3 : (K == 3) = false := by rw [e]; rfl
      subst e
      have X13 : Hid (Bx w8 w6.heap.size ⟨0, 0, ((ss.length : Nat) : Int), mk vd, mk en, mk dt, []⟩ none 0) := by rw [HE.out, HD.out]; exact X8.out
      clear cT cA ck
      go_wp2_with fail
      go_meet
      case rel => exact ⟨X13.out, Kept.refl _ _⟩
  case rest =>
    obtain ⟨hxc, hkc⟩ := hcut
    have XC : Hid (Bx wc w6.heap.size ⟨0, 0, ((ss.length : Nat) : Int), mk vd, mk en, mk dt, []⟩ none 0) := hxc
    have KC : Hid (Kept (fun q => q = w6.heap.size) w8 wc) := hkc
    have BC : Hid (Below w.heap.size w wc) := hkc.down B8.out (fun q hq => by rw [hq]; omega)
    have HCC : Hid (wc.cell? ⟨w.heap.size, 0, none⟩ = some (.slice (some x) ns.length capT)) := hkc.cell HC8.out (by show ¬ (w.heap.size = w6.heap.size); omega)
    have HAC : Hid (wc.cell? ⟨w1.heap.size, 0, none⟩ = some (.int .i64 (n : Int))) := hkc.cell HA8.out (by show ¬ (w1.heap.size = w6.heap.size); omega)
    have XRC : Hid (Bx wc w2.heap.size nil none 0) := ⟨hkc.heap XR8.out.blk (by show ¬ (w2.heap.size = w6.heap.size); omega)⟩
    have HKQ : Hid (Calls Tryz.prog 110 #[.agg #[.slice (some x) ns.length capT], .int .i64 (n : Int), .slice oR ss.length ss.length] wc (KidsQ B f ns n (ss.map bl) wc)) := HKD.out wc oR BC.out (HR4.out.later (hkc.down B48.out (fun q hq => by rw [hq]; exact HZ46.out)))
    have cTC := HCC.out
    have cAC := HAC.out
    clear hxc hkc cT cA ck HKD
    go_wp2_with fail
    refine HKQ.out.mono ?_
    rintro e w10 ⟨oK, LK, cK, rfl, bK, hK⟩
    have BK : Hid (Below wc.heap.size wc w10) := bK
    have B10 : Hid (Below w.heap.size w w10) := bel2 BC.out bK
    have X10 : Hid (Bx w10 w6.heap.size ⟨0, 0, ((ss.length : Nat) : Int), mk vd, mk en, mk dt, []⟩ none 0) := XC.out.later bK
    have XR10 : Hid (Bx w10 w2.heap.size nil none 0) := XRC.out.later bK
    have HKK : Hid (kidsOk ns f n (ss.map bl) = true → LK = (kids ns n).length ∧ ∃ b0 css, wc.heap.size ≤ b0 ∧ Copied B f (built ns f n (ss.map bl)) b0 (kids ns n).length (.slice oK (kids ns n).length cK) w10 css) := hK
    rw [hKK] at HKK
    clear bK hK cTC cAC HKQ
    generalize kidsOk ns f n (ss.map bl) = OKB at *
    cases OKB
    · have HN : Hid ((buildF ns (f + 1) n (ss.map bl)).isSome = false) := HBS.out
      have u0 := XR10.out.c0
      have u1 := XR10.out.c1
      have u2 := XR10.out.c2
      have u3 := XR10.out.c3
      have u4 := XR10.out.c4
      have u5 := XR10.out.c5
      have u6 := XR10.out.c6
      have v0 := XR10.out.fz 0
      have v1 := XR10.out.fz 1
      have v2 := XR10.out.fz 2
      have v3 := XR10.out.fz 3
      have v4 := XR10.out.fz 4
      have v5 := XR10.out.fz 5
      have v6 := XR10.out.fz 6
      unfold nil at u0 u1 u2 u3 u4 u5 u6
      obtain ⟨w21, e21, x21, h21, b21⟩ := set7 XR10.out nil none 0
      have e21b : (((((((w10).setCell ⟨w2.heap.size, 0, none⟩ (.int .i64 0)).setCell ⟨w2.heap.size, 1, none⟩ (.int .i64 0)).setCell ⟨w2.heap.size, 2, none⟩ (.int .i64 0)).setCell ⟨w2.heap.size, 3, none⟩ (.string ⟨#[]⟩)).setCell ⟨w2.heap.size, 4, none⟩ (.string ⟨#[]⟩)).setCell ⟨w2.heap.size, 5, none⟩ (.string ⟨#[]⟩)).setCell ⟨w2.heap.size, 6, none⟩ (.slice none 0 0) = w21 := e21
      have HB21 : Hid (Below w.heap.size w w21) := B10.out.trans (b21 w.heap.size (by omega))
      have q0 := x21.c0
      have q1 := x21.c1
      have q2 := x21.c2
      have q3 := x21.c3
      have q4 := x21.c4
      have q5 := x21.c5
      have q6 := x21.c6
      unfold nil at q0 q1 q2 q3 q4 q5 q6
      have HQ : Hid (BuildQ B (f + 1) ns n (ss.map bl) w (.returned (.tuple #[.agg #[.int .i64 0, .int .i64 0, .int .i64 0, .string ⟨#[]⟩, .string ⟨#[]⟩, .string ⟨#[]⟩, .slice none 0 0], .bool false])) w21) := none_done nil none 0 HN.out HB21.out
      clear e21 x21 h21 b21
      go_wp2_with fail
      try rw [e21b]
      exact bodyPost_ret (v := .tuple #[.agg #[.int .i64 0, .int .i64 0, .int .i64 0, .string ⟨#[]⟩, .string ⟨#[]⟩, .string ⟨#[]⟩, .slice none 0 0], .bool false]) (by simp [results, Tryz.results60, go_sem, q0, q1, q2, q3, q4, q5, q6] <;> rfl) rfl HQ.out
    · have HY : Hid ((buildF ns (f + 1) n (ss.map bl)).isSome = true) := HBS.out
      obtain ⟨rfl, b0, css, hb0, hcp⟩ := HKK.out rfl
      have CP : Hid (Copied B f (built ns f n (ss.map bl)) b0 LK (.slice oK LK cK) w10 css) := hcp
      have HB0 : Hid (wc.heap.size ≤ b0) := hb0
      have HXC : Hid (w6.heap.size < wc.heap.size) := XC.out.lt
      have d6 := X10.out.c6
      have g6 := X10.out.fz 6
      obtain ⟨w11, e11, x11, k11, h11⟩ := X10.out.set6 (List.replicate LK nil) oK cK
      rw [List.length_replicate] at e11
      have d6' : w10.cell? ⟨w6.heap.size, 6, none⟩ = some (.slice none 0 0) := d6
      have X11 : Hid (Bx w11 w6.heap.size ⟨0, 0, ((ss.length : Nat) : Int), mk vd, mk en, mk dt, List.replicate LK nil⟩ oK cK) := x11
      have B11 : Hid (Below w.heap.size w w11) := by rw [← e11]; exact B10.out.setCell (by show w.heap.size ≤ w6.heap.size; omega) _
      have HH11 : Hid (∀ b, b ≠ w6.heap.size → w11.heap[b]? = w10.heap[b]?) := h11
      have XR11 : Hid (Bx w11 w2.heap.size nil none 0) := ⟨(h11 w2.heap.size (by omega)).trans XR10.out.blk⟩
      have p0 := X11.out.c0
      have p1 := X11.out.c1
      have p2 := X11.out.c2
      have p3 := X11.out.c3
      have p4 := X11.out.c4
      have p5 := X11.out.c5
      have p6 := X11.out.c6r
      clear hcp hb0 d6 x11 k11 h11
      have u0 := XR11.out.c0
      have u1 := XR11.out.c1
      have u2 := XR11.out.c2
      have u3 := XR11.out.c3
      have u4 := XR11.out.c4
      have u5 := XR11.out.c5
      have u6 := XR11.out.c6
      have v0 := XR11.out.fz 0
      have v1 := XR11.out.fz 1
      have v2 := XR11.out.fz 2
      have v3 := XR11.out.fz 3
      have v4 := XR11.out.fz 4
      have v5 := XR11.out.fz 5
      have v6 := XR11.out.fz 6
      unfold nil at u0 u1 u2 u3 u4 u5 u6
      obtain ⟨w12, e12, x12, h12, b12⟩ := set7 XR11.out ⟨0, 0, ((ss.length : Nat) : Int), mk vd, mk en, mk dt, List.replicate LK nil⟩ oK cK
      rw [List.length_replicate] at e12
      have e12b : (((((((w11).setCell ⟨w2.heap.size, 0, none⟩ (.int .i64 0)).setCell ⟨w2.heap.size, 1, none⟩ (.int .i64 0)).setCell ⟨w2.heap.size, 2, none⟩ (.int .i64 ((ss.length : Nat) : Int))).setCell ⟨w2.heap.size, 3, none⟩ (.string (mk vd))).setCell ⟨w2.heap.size, 4, none⟩ (.string (mk en))).setCell ⟨w2.heap.size, 5, none⟩ (.string (mk dt))).setCell ⟨w2.heap.size, 6, none⟩ (.slice oK LK cK) = w12 := e12
      have HB12 : Hid (Below w.heap.size w w12) := B11.out.trans (b12 w.heap.size (by omega))
      have q0 := x12.c0
      have q1' := x12.c1
      have q2 := x12.c2
      have q3 := x12.c3
      have q4 := x12.c4
      have q5 := x12.c5
      have q6 := x12.c6r
      have HHO : Hid (HoldsO B w12 (f + 1) (fun b => w.heap.size ≤ b) ((built ns f n (ss.map bl)).cells oK cK) (built ns f n (ss.map bl))) := by
        have hcp2 := CP.out
        rw [← HKLM.out] at hcp2
        have hd := hcp2.done (w5 := w12) (HOKB.out HY.out) (fun b hb hlt => by
          have h1 := HB0.out
          have h2 := HXC.out
          rw [h12 b (by omega), HH11.out b (by omega)])
        exact hd.stays (fun _ _ => rfl) (fun b hb => by
          have h1 := HB0.out
          have h2 := BC.out.size
          have h3 : b0 ≤ b := hb
          omega)
      have HQ : Hid (BuildQ B (f + 1) ns n (ss.map bl) w (.returned (.tuple #[.agg #[.int .i64 0, .int .i64 0, .int .i64 ((ss.length : Nat) : Int), .string (mk vd), .string (mk en), .string (mk dt), .slice oK LK cK], .bool true])) w12) := HDONE.out oK cK _ w12 HY.out HB12.out (HVAL.out oK cK) HHO.out
      clear e12 x12 h12 b12
      go_wp2_with fail
      try rw [e11]
      go_wp2_with fail
      try rw [e12b]
      exact bodyPost_ret (v := .tuple #[.agg #[.int .i64 0, .int .i64 0, .int .i64 ((ss.length : Nat) : Int), .string (mk vd), .string (mk en), .string (mk dt), .slice oK LK cK], .bool true]) (by simp [results, Tryz.results60, go_sem, q0, q1', q2, q3, q4, q5, q6]) rfl HQ.out
theorem array_step (B f : Nat) (hB : 4096 ≤ B) (ih : Hid (ArrayC B f)) : ArrayC B (f + 1) := by
  intro ns oT capT n g ss o cap w hn hm hf hg hF hw hx ht
  obtain ⟨g, rfl⟩ : ∃ y, g = y + 1 := ⟨g - 1, by omega⟩
  by_cases h64 : ss.length ≤ 64
  · exact array_few B f g hB ih ns oT capT n ss o cap w hn hm hf hg hF h64 hw hx ht
  · exact array_long B f g ns oT capT n ss o cap w (by omega)
theorem arrayAll (B : Nat) (hB : 4096 ≤ B) : ∀ f, ArrayC B f := by
  intro f
  induction f with
  | zero => intro ns oT capT n g ss o cap w hn hm hf; omega
  | succ f ih => exact array_step B f hB ih
end Go.Proofs.YtcpfhfdgfcilaaaGreatDoor.Arr
