/-
  ValueTable: texts that are values have their kinds and their parts.
-/
import Derived.Test.YtncagkkngbmdkaaDoorRows
import Derived.WalkKit
import Derived.ProofKit
import Derived.OpenShut
import Derived.ShutString
import Derived.ChangeOld
import Derived.Below
import Derived.LaidMore
import Derived.Stop.Joined
import Derived.Deep.QuietTactic
import Derived.WalkSmall
import Derived.BigQuiet
import Derived.Deep.RegionWith
import Derived.OwnWalk
import Derived.RegionTactic
import Derived.ChangeAlike
import Derived.Deep.CutBlock
import Derived.SevenTiedAt
import Derived.Test.YtncagkkngbmdkaaDoorCards
import Derived.Test.YtncagkkngbmdkaaDoorTie
import Derived.SizedLaws
import Derived.Test.YtncagkkngbmdkaaDoorTree
import Derived.Test.YtncagkkngbmdkaaDoorMask
import Derived.Test.YtncagkkngbmdkaaDoorMem
import Derived.Test.YtncagkkngbmdkaaDoorWhole
import Derived.Test.YtncagkkngbmdkaaDoorValTab
import Derived.Test.YtncagkkngbmdkaaDoorOpenTexts
import Derived.Test.YtncagkkngbmdkaaDoorHome
import Derived.Test.YtncagkkngbmdkaaDoorDoor
import Derived.Test.YtncagkkngbmdkaaDoorPartsC
import Derived.Test.YtncagkkngbmdkaaDoorMake
import Derived.Test.YtncagkkngbmdkaaDoorAwake
namespace Go.Proofs.YtncagkkngbmdkaaDoor.valueTable
open Go.ChangeShapes Go.WideShapes Go.ChangeAt Go.RowKit
open Go.ChangeMaps (open_string shut_string)
set_option linter.unusedVariables false

theorem own : ownKnob Tryd.prog.godebug = none := by kernel_rfl

open Val
def tabV : List Value := tabTexts.map Value.string
theorem tabV_at (k : Nat) (h : k < tabV.length) : tabV[k] = .string (tabTexts.getD k ByteArray.empty) := by
  have hk : k < tabTexts.length := by rw [tabV, List.length_map] at h; exact h
  rw [getD_text tabTexts k hk]
  exact List.getElem_map Value.string
def kindV : List Value := tabKinds.map fun z => Value.int .i64 z
def manyI : List Int := [0, 1, 1, 1, 1, 1, 1, 1, 0, 0, 2, 3, 1, 0]
theorem manyI_at : ∀ i : Fin 14, manyI.getD i.val 0 = ((tabMany.getD i.val 0 : Nat) : Int) := by decide
def manyV : List Value := manyI.map fun z => Value.int .i64 z
def litTab (w : World) : World := ((w.alloc (.cells tabV.toArray 9)).alloc (.cells kindV.toArray 3)).alloc (.cells manyV.toArray 3)
theorem litTab_is (w : World) (k : Nat) (h : k < 14) : (litTab w).cell? ⟨w.heap.size + 1, k, none⟩ = some (.int .i64 (tabKinds.getD k 0)) ∧ (litTab w).cell? ⟨w.heap.size + 1 + 1, k, none⟩ = some (.int .i64 ((tabMany.getD k 0 : Nat) : Int)) ∧ Below w.heap.size w (litTab w) := by
  have hb1 : Below w.heap.size w (w.alloc (.cells tabV.toArray 9)) := (Below.refl _ _).alloc (Nat.le_refl _) _
  have hs1 : (w.alloc (.cells tabV.toArray 9)).heap.size = w.heap.size + 1 := by simp
  generalize hu : w.alloc (.cells tabV.toArray 9) = u at *
  have hb2 : Below u.heap.size u (u.alloc (.cells kindV.toArray 3)) := (Below.refl _ _).alloc (Nat.le_refl _) _
  have hs2 : (u.alloc (.cells kindV.toArray 3)).heap.size = w.heap.size + 1 + 1 := by simp [hs1]
  have hn2 := heap_alloc_new u (.cells kindV.toArray 3)
  rw [hs1] at hn2
  generalize hv : u.alloc (.cells kindV.toArray 3) = v at *
  have hb3 : Below v.heap.size v (v.alloc (.cells manyV.toArray 3)) := (Below.refl _ _).alloc (Nat.le_refl _) _
  have hn3 := heap_alloc_new v (.cells manyV.toArray 3)
  rw [hs2] at hn3
  unfold litTab
  rw [hu, hv]
  refine ⟨?_, ?_, bel2 (bel2 hb1 hb2) hb3⟩
  · refine Tree.cell_later hb3 ?_
    rw [cell_of_row _ _ _ _ _ _ hn2]
    unfold kindV
    have hl : tabKinds.length = 14 := rfl
    rw [List.getElem?_toArray, List.getElem?_map, List.getElem?_eq_getElem (by omega), List.getD_eq_getElem?_getD, List.getElem?_eq_getElem (by omega)]
    rfl
  · rw [cell_of_row _ _ _ _ _ _ hn3]
    unfold manyV
    have hl : manyI.length = 14 := rfl
    rw [← manyI_at ⟨k, h⟩]
    show _ = some (Value.int .i64 (manyI.getD k 0))
    rw [List.getElem?_toArray, List.getElem?_map, List.getElem?_eq_getElem (by omega), List.getD_eq_getElem?_getD, List.getElem?_eq_getElem (by omega)]
    rfl
theorem tab_parts (i : Nat) (h : i < 13) (w : World) (hw : Home w) :
    Calls Tryd.prog 10 #[.string (tabTexts.getD i ByteArray.empty)] w fun r w' => ∃ o cap, r = .returned (.tuple #[.int .i64 (tabKinds.getD i 0), .slice o (tabMany.getD i 0) cap, .int .i64 0]) ∧ Below w.heap.size w w' := by
  obtain ⟨h1, h2⟩ := tab_some ⟨i, h⟩
  obtain ⟨p, hp, e⟩ := Option.map_eq_some_iff.1 h1
  obtain ⟨k, ps⟩ := p
  injection e with e1 e2
  replace e1 : k = tabKinds.getD i 0 := e1
  replace e2 : ps.length = tabMany.getD i 0 := e2
  replace h2 : (tabTexts.getD i ByteArray.empty).size ≤ 64 := h2
  refine (partsC (tabTexts.getD i ByteArray.empty) k ps 0 (by omega) (.inl ⟨hp, rfl⟩) w hw).mono ?_
  rintro e w' ⟨o, cap, rfl, _, hb⟩
  exact ⟨o, cap, by rw [e1, e2], hb⟩
theorem tab_end (w : World) (hw : Home w) :
    Calls Tryd.prog 10 #[.string (tabTexts.getD 13 ByteArray.empty)] w fun r w' => ∃ o cap, r = .returned (.tuple #[.int .i64 0, .slice o 0 cap, .int .i64 700]) ∧ Below w.heap.size w w' := by
  refine (partsC _ 0 [] 700 (by decide) (.inr ⟨tab_last, rfl, rfl, rfl⟩) w hw).mono ?_
  rintro e w' ⟨o, cap, rfl, _, hb⟩
  exact ⟨o, cap, rfl, hb⟩
set_option maxRecDepth 20000 in
set_option maxHeartbeats 4000000 in
theorem walk (a0 : Int) (w : World) (hw : Hid (Val.Home w)) (w0 : (Lit.int .i64 a0).wf = true) :
    Calls Tryd.prog 5 #[.int .i64 a0] w fun e w' => e = .returned (.bool true) ∧ Below w.heap.size w w' := by
  obtain ⟨k, hk, hk0, hk14⟩ := Tree.rest a0 14 (by decide)
  go_enter Tryd.func5, Tryd.ntmps5
  go_wp2_with fail
  refine (awake w hw).mono ?_
  rintro e w1 ⟨rfl, hb1⟩
  go_wp2_with fail
  have hkt : k.toNat < tabV.length := by show k.toNat < 14; omega
  have hs := tabV_at k.toNat hkt
  obtain ⟨l1, l2, l3⟩ := litTab_is w1 k.toNat (by omega)
  have hB2 := bel2 hb1 l3
  by_cases h13 : k = 13
  · have hc := tab_end (litTab w1) (hw.out.later hB2)
    have hs' : tabV[k.toNat] = .string (tabTexts.getD 13 ByteArray.empty) := by rw [hs, h13]; rfl
    rw [← hs'] at hc
    refine Calls.mono hc ?_
    clear hc
    generalize litTab w1 = w2 at *
    rintro e w3 ⟨o3, c3, rfl, hb3⟩
    have B3 : Hid (Below w.heap.size w w3) := bel2 hB2 hb3
    clear hb1 hB2 hb3 hs hs' l1 l2 l3 hk
    subst h13
    go_wp2_with fail
    refine (numC _ _).mono ?_
    rintro e wx ⟨rfl, rfl⟩
    go_wp2
    go_ret
    exact ⟨rfl, B3.out⟩
  · have hc := tab_parts k.toNat (by omega) (litTab w1) (hw.out.later hB2)
    rw [← hs] at hc
    refine Calls.mono hc ?_
    clear hc
    generalize litTab w1 = w2 at *
    rintro e w3 ⟨o3, c3, rfl, hb3⟩
    have B3 : Hid (Below w.heap.size w w3) := bel2 hB2 hb3
    have m1 := Tree.cell_later hb3 l1
    have m2 := Tree.cell_later hb3 l2
    have n13 : (k == 13) = false := by rw [beq_eq_false_iff_ne]; exact h13
    clear hb1 hB2 hb3 hs l1 l2 l3 hk h13
    generalize tabKinds.getD k.toNat 0 = Z at *
    generalize tabMany.getD k.toNat 0 = M at *
    go_wp2_with fail
    refine (numC _ _).mono ?_
    rintro e wx ⟨rfl, rfl⟩
    go_wp2
    go_ret
    exact ⟨by simp, B3.out⟩

set_option maxRecDepth 100000 in
theorem lifted (os : Os) (started : os.Started) (H : Type) (enc : TypeId × Value → H) :
    ReturnsInHanded {} Tryd.checked os 5 .any (fun w args => (Rows.valueTableSpec.pre enc Tryd.prog Tryd.f5 [] false w args ∧ laidMetH Tryd.prog Val.laidV w) ∧ sizedMet enc Tryd.prog Tryd.f5 (OpenSpec.ofChange Rows.valueTableSpec) false w args) (Rows.valueTableSpec.post enc Tryd.prog Tryd.f5 false true false false) := by
  refine returnsInHanded_of_change_and (C := Tryd.checked) (X := fun w _ => laidMetH Tryd.prog Val.laidV w) (fun _ _ _ hh h => h.of_heap hh) own started (by kernel_rfl) Tryd.func5
    (ChangeSpec.witness_shaped (enc := enc) (C := Tryd.checked) (os := os) (X := fun w _ => laidMetH Tryd.prog Val.laidV w) false (World.doorLaid Tryd.prog 400 os) #[.int .i64 0] 8 rfl (World.shaped_of_RefB (by kernel_rfl) (by kernel_rfl)) (by kernel_rfl) (by kernel_rfl) (by kernel_rfl) (Val.door_met os _)) ?_
  intro W base args ds gs before hval0 hW hcnd _ hL _
  have hval : ∀ (j : Nat) t v, Tryd.f5.params[j]? = some t → args[j]? = some v → Value.okWide Tryd.prog W .any base t v := hval0
  have hW' := hW
  obtain ⟨p, q, hA0, hV, rfl, hfz, hnd⟩ := hW
  have hA : DataW.TrodAll enc Tryd.prog W 0 (fun _ => true) true Tryd.f5.params.toList args.toList ds p := hA0
  rw [Tryd.params5] at hA hval
  obtain ⟨v0, vs0, d0, ds0, p0, q0, hargs, rfl, rfl, h0, r0⟩ := trodAll_cons hA
  obtain ⟨rfl, rfl, rfl⟩ := trodAll_nil r0
  obtain rfl : args = #[v0] := by cases args; simp_all
  obtain ⟨rfl, rfl⟩ := trodVars_none hV
  obtain ⟨a0, rfl, rfl, rfl, w0⟩ := open_int Tryd.underlying3 (hval 0 3 v0 rfl rfl) h0
  clear hA0 hval0
  refine (walk a0 W (Val.home_of hL) w0).mono fun e W' ⟨he, bel⟩ => ?_
  subst he
  exact ⟨_, rfl, _, _, _, [], _, [], hW', trodAll_mk1 (shut_bool Tryd.underlying4 _), (trodAll_cons_mk (shut_int Tryd.underlying3 w0) trodAll_mk0), rfl, bel.frame _, fun h => by cases h⟩

theorem over : Rows.valueTableRow.holds Tryd.pinned (OpenSpec.ofChange Rows.valueTableSpec) :=
  OpenClaim.holds_of_wide 5 Tryd.f5 rfl rfl rfl rfl rfl rfl rfl ⟨rfl, rfl, rfl, rfl, rfl⟩ rfl rfl rfl rfl rfl (by kernel_rfl) Tryd.func5 (by kernel_rfl)
    (of_decide_eq_true (by kernel_rfl)) (by unfold Func.isWrapper; first | (rw [if_pos (by decide +kernel)]; kernel_rfl) | (rw [if_neg (by decide +kernel)]; exact ⟨rfl, rfl⟩))
    (fun os started H enc _ => lifted os started H enc)

end Go.Proofs.YtncagkkngbmdkaaDoor.valueTable
namespace Go.Proofs.YtncagkkngbmdkaaDoor
theorem valueTable_holds : Rows.ValueTableCardSaid :=
  Claim7.holds_tied_plain_at .later [] [.data, .data, .data, .sentinel, .sentinel] true (true, "144572b7fb924916b0d2afe7311542e541e51744ef72fae6c12f1363541a2b76") true
    valueTable.over (fun _ h => by cases h) (by kernel_rfl) (fun _ h => by cases h) valueTable_row_tie rfl ⟨rfl, rfl⟩ (by kernel_rfl) rfl
    (fun f fn hf hfn => by
      obtain rfl : f = 5 := Option.some.inj ((show Tryd.prog.funcNamed Rows.valueTableRow.func = some 5 by kernel_rfl).symm.trans hf) |>.symm
      obtain rfl : fn = Tryd.f5 := (Option.some.inj (Tryd.func5.symm.trans hfn)).symm
      exact ⟨by kernel_rfl, fun j t ht => by
        rw [Tryd.params5] at ht
        have hm : t ∈ [3] := by simpa using Array.mem_of_getElem? ht
        have hall : ([3].all fun u => !Tryd.prog.wantsStandIn u) = true := by kernel_rfl
        exact (show Tryd.prog.wantsStandIn t = false by simpa using List.all_eq_true.1 hall t hm)⟩)
    (by kernel_rfl)
#print axioms valueTable_holds
end Go.Proofs.YtncagkkngbmdkaaDoor
