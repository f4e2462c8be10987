/-
  ValueBack: a value's parts, made one again, are the value; a text that is none tells nothing.
-/
import Derived.Test.YtncagkkngbmdkaaDoorRows
import Derived.WalkKit
import Derived.ProofKit
import Derived.OpenShut
import Derived.ShutString
import Derived.ChangeOld
import Derived.Below
import Derived.LaidMore
import Derived.Stop.Joined
import Derived.Deep.QuietTactic
import Derived.WalkSmall
import Derived.BigQuiet
import Derived.Deep.RegionWith
import Derived.OwnWalk
import Derived.RegionTactic
import Derived.ChangeAlike
import Derived.Deep.CutBlock
import Derived.SevenTiedAt
import Derived.Test.YtncagkkngbmdkaaDoorCards
import Derived.Test.YtncagkkngbmdkaaDoorTie
import Derived.SizedLaws
import Derived.Test.YtncagkkngbmdkaaDoorTree
import Derived.Test.YtncagkkngbmdkaaDoorMem
import Derived.Test.YtncagkkngbmdkaaDoorWhole
import Derived.Test.YtncagkkngbmdkaaDoorOpenTexts
import Derived.Test.YtncagkkngbmdkaaDoorHome
import Derived.Test.YtncagkkngbmdkaaDoorDoor
import Derived.Test.YtncagkkngbmdkaaDoorRow
import Derived.Test.YtncagkkngbmdkaaDoorPartsC
import Derived.Test.YtncagkkngbmdkaaDoorMake
import Derived.Test.YtncagkkngbmdkaaDoorAwake
namespace Go.Proofs.YtncagkkngbmdkaaDoor.valueBack
open Go.ChangeShapes Go.WideShapes Go.ChangeAt Go.RowKit
open Go.ChangeMaps (open_string shut_string)
set_option linter.unusedVariables false

theorem own : ownKnob Tryd.prog.godebug = none := by kernel_rfl

open Val Texts
theorem told_made {s : ByteArray} {k : Int} {ps : List ByteArray} (h : partsS s = some (k, ps)) :
    (k = -1 ∧ ps = [] ∧ s = mk nullM) ∨ (∃ t, k = 0 ∧ ps = [t] ∧ t.size ≤ 20 ∧ s = ⟨#[105]⟩ ++ t ++ ⟨#[59]⟩) ∨ (∃ b, k = 1 ∧ ps = [s] ∧ s = mk (boolM b)) ∨ (∃ t, k = 2 ∧ ps = [t] ∧ s = mk (bytesM (bl t))) ∨ (k = 3 ∧ s = mk (listM (ps.map bl))) ∨ (k = 4 ∧ s = mk (structM (ps.map bl))) := by
  have hv : isVal (bl s) := by
    by_cases c : isVal (bl s)
    · exact c
    · rw [partsS_none c] at h
      cases h
  obtain ⟨k', qs, hm, hmade⟩ := parts_made hv
  unfold partsS at h
  rw [hm] at h
  have h' : some (k', qs.map fun l => mk l) = some (k, ps) := h
  injection h' with h'
  injection h' with e1 e2
  subst e1
  have hs : ∀ l, bl s = l → s = mk l := fun l e => by rw [← e, mk_of]
  have hq : ps.map bl = qs := by
    rw [← e2, List.map_map]
    have : (bl ∘ fun l => mk l) = id := funext fun l => bl_mk' l
    rw [this, List.map_id]
  rcases hmade with ⟨rfl, rfl, e⟩ | ⟨x, hx, rfl, rfl, e⟩ | ⟨b, rfl, rfl, e⟩ | ⟨t, rfl, rfl, e⟩ | ⟨rfl, e, _⟩ | ⟨rfl, e, _⟩
  · exact .inl ⟨rfl, e2.symm, hs _ e⟩
  · refine .inr (.inl ⟨mk (intD x), rfl, e2.symm, by rw [mk_size']; exact (length_intD x hx).2, ?_⟩)
    rw [hs _ e]
    show _ = mk [105] ++ mk (intD x) ++ mk [59]
    rw [mk_app, mk_app]
    rfl
  · refine .inr (.inr (.inl ⟨b, rfl, ?_, hs _ e⟩))
    rw [← e2, hs _ e]
    rfl
  · refine .inr (.inr (.inr (.inl ⟨mk t, rfl, e2.symm, ?_⟩)))
    rw [hs _ e, bl_mk']
  · refine .inr (.inr (.inr (.inr (.inl ⟨rfl, ?_⟩))))
    rw [hs _ e, hq]
  · refine .inr (.inr (.inr (.inr (.inr ⟨rfl, ?_⟩))))
    rw [hs _ e, hq]
theorem own_cap {w : World} {B n cap : Nat} {e : TypeId} {k : Nat} {o : Option Addr} {xs : List Value} (h : w.ownsRow B e k (.slice o n cap) n xs) : n ≤ cap := by
  rcases h.2 with ⟨_, c⟩ | ⟨g, cap', cur, h0, _, _, h1, _⟩
  · omega
  · injection h0 with _ _ h2
    omega
theorem parts_small {s : ByteArray} {k : Int} {ps : List ByteArray} (h : partsS s = some (k, ps)) : s.size ≤ 65536 ∧ (∀ t ∈ ps, t.size ≤ 65536) := by
  have hv : isVal (bl s) := by
    by_cases c : isVal (bl s)
    · exact c
    · rw [partsS_none c] at h
      cases h
  have hs : s.size ≤ 65536 := by have := hv.1; rw [bl_length] at this; exact this
  refine ⟨hs, ?_⟩
  obtain ⟨qs, h1, h2⟩ := parts_told hv
  rw [h1] at h
  injection h with h
  injection h with _ h
  subst h
  have hb := body_size s hs
  rcases h2 with ⟨_, rfl⟩ | ⟨_, hr⟩ | ⟨_, rfl⟩
  · intro t ht; cases ht
  · intro t ht
    obtain ⟨i, hi, e⟩ := List.getElem_of_mem ht
    have := hr.pos_le (i + 1)
    rw [pos_succ _ i hi, getD_text _ i hi, e] at this
    omega
  · intro t ht
    rw [List.mem_singleton.1 ht]
    exact hb
theorem flat_small {s : ByteArray} {ps : List ByteArray} {k : Int} (h : partsS s = some (k, ps)) (hk : k = 3 ∨ k = 4) : (flat ps).length ≤ 65536 ∧ ps.length ≤ 65536 := by
  have hv : isVal (bl s) := by
    by_cases c : isVal (bl s)
    · exact c
    · rw [partsS_none c] at h
      cases h
  have hs : s.size ≤ 65536 := by have := hv.1; rw [bl_length] at this; exact this
  obtain ⟨qs, h1, h2⟩ := parts_told hv
  rw [h1] at h
  injection h with h
  injection h with hk' h
  subst h
  have hb := body_size s hs
  rcases h2 with ⟨c, _⟩ | ⟨_, hr⟩ | ⟨⟨_, c, d⟩, _⟩
  · rw [hk'] at c
    omega
  · rw [← hr.eq, bl_length]
    exact ⟨hb, Nat.le_trans hr.len hb⟩
  · rw [hk'] at c d
    omega
theorem tx_first {w : World} {o : Option Addr} {t : ByteArray} (h : IsTx w o [t]) : ∃ x, o = some x ∧ w.cell? x = some (.string t) := by
  obtain ⟨x, e, hx⟩ := tx_at h (Nat.le_refl _)
  have := hx 0 Nat.one_pos
  rw [show x.add 0 = x from by unfold Addr.add; split <;> simp_all] at this
  exact ⟨x, e, this⟩
set_option maxRecDepth 20000 in
set_option maxHeartbeats 4000000 in
theorem walk (a0 : ByteArray) (w : World) (hw : Hid (Val.Home w)) (w0 : a0.size ≤ maxLen) (s0 : a0.size ≤ 140737488351232) :
    Calls Tryd.prog 3 #[.string a0] w fun e w' => e = .returned (.bool true) ∧ Below w.heap.size w w' := by
  obtain ⟨K, ps, E, hta⟩ := tellA_some a0
  have HTA : Hid (TellA a0 K ps E) := hta
  go_enter Tryd.func3, Tryd.ntmps3
  go_wp2_with fail
  refine (awake w hw).mono ?_
  rintro e w1 ⟨rfl, b1⟩
  go_wp2_with fail
  refine (partsC a0 K ps E (by unfold maxLen at w0; omega) HTA w1 (hw.out.later b1)).mono ?_
  rintro e w2 ⟨o, cap, rfl, hown, b2⟩
  have B2 : Hid (Below w.heap.size w w2) := bel2 b1 b2
  have HO : Hid (w2.ownsRow w1.heap.size 9 1 (.slice o ps.length cap) ps.length (cellsT ps)) := hown
  have HW2 : Hid (Home w2) := hw.out.later B2.out
  clear b1 b2 hown
  go_wp2_with fail
  refine (numC _ _).mono ?_
  rintro e wx ⟨rfl, rfl⟩
  rcases hta with ⟨hp, rfl⟩ | ⟨hp, rfl, rfl, rfl⟩
  · have HP : Hid (partsS a0 = some (K, ps)) := hp
    obtain ⟨hsz, hpz⟩ := parts_small hp
    have HT : Hid (IsTx wx o ps) := own_texts HO.out
    have hc := own_cap HO.out
    rcases told_made hp with ⟨rfl, rfl, he⟩ | ⟨t, rfl, rfl, ht, he⟩ | ⟨b, rfl, rfl, he⟩ | ⟨t, rfl, rfl, he⟩ | ⟨rfl, he⟩ | ⟨rfl, he⟩
    · have HE : Hid (a0 = mk nullM) := he
      clear hp he hpz
      go_wp2_with fail
      refine (nullC _).mono ?_
      rintro e wy ⟨rfl, rfl⟩
      rw [← HE.out]
      go_wp2
      go_ret
      exact ⟨rfl, B2.out⟩
    · obtain ⟨x, rfl, hx⟩ := tx_first HT.out
      have HE : Hid (a0 = ⟨#[105]⟩ ++ t ++ ⟨#[59]⟩) := he
      clear hp he hpz
      go_wp2
      go_ret
      refine ⟨?_, B2.out⟩
      rw [HE.out]
      simp
    · obtain ⟨x, rfl, hx⟩ := tx_first HT.out
      have HE : Hid (a0 = mk (boolM b)) := he
      clear hp he hpz
      cases b
      · have hne : (a0.toList == (mk (boolM true)).toList) = false := texts_part (by rw [HE.out]; decide)
        go_wp2_with fail
        refine (boolC true _).mono ?_
        rintro e wy ⟨rfl, rfl⟩
        go_wp2_with fail
        refine (boolC false _).mono ?_
        rintro e wz ⟨rfl, rfl⟩
        rw [← HE.out]
        go_wp2
        go_ret
        exact ⟨rfl, B2.out⟩
      · go_wp2_with fail
        refine (boolC true _).mono ?_
        rintro e wy ⟨rfl, rfl⟩
        rw [← HE.out]
        go_wp2
        go_ret
        exact ⟨rfl, B2.out⟩
    · obtain ⟨x, rfl, hx⟩ := tx_first HT.out
      have HE : Hid (a0 = mk (bytesM (bl t))) := he
      have ht : t.size ≤ 65536 := hpz t (List.mem_singleton.2 rfl)
      clear hp he hpz
      go_wp2_with fail
      refine (bytesC t (by omega) _ HW2.out).mono ?_
      rintro e w3 ⟨rfl, b3⟩
      rw [← HE.out]
      go_wp2
      go_ret
      exact ⟨rfl, bel2 B2.out b3⟩
    · have HE : Hid (a0 = mk (listM (ps.map bl))) := he
      obtain ⟨hf, hl⟩ := flat_small hp (.inl rfl)
      clear hp he hpz
      go_wp2_with fail
      refine (listC o cap ps hc (by omega) (by omega) _ HT.out).mono ?_
      rintro e w3 ⟨rfl, b3⟩
      rw [← HE.out]
      go_wp2
      go_ret
      exact ⟨rfl, bel2 B2.out b3⟩
    · have HE : Hid (a0 = mk (structM (ps.map bl))) := he
      obtain ⟨hf, hl⟩ := flat_small hp (.inr rfl)
      clear hp he hpz
      go_wp2_with fail
      refine (structC o cap ps hc (by omega) (by omega) _ HT.out).mono ?_
      rintro e w3 ⟨rfl, b3⟩
      rw [← HE.out]
      go_wp2
      go_ret
      exact ⟨rfl, bel2 B2.out b3⟩
  · clear hp
    go_wp2
    go_ret
    exact ⟨rfl, B2.out⟩

set_option maxRecDepth 100000 in
theorem lifted (os : Os) (started : os.Started) (H : Type) (enc : TypeId × Value → H) :
    ReturnsInHanded {} Tryd.checked os 3 .any (fun w args => (Rows.valueBackSpec.pre enc Tryd.prog Tryd.f3 [] false w args ∧ laidMetH Tryd.prog Val.laidV w) ∧ sizedMet enc Tryd.prog Tryd.f3 (OpenSpec.ofChange Rows.valueBackSpec) false w args) (Rows.valueBackSpec.post enc Tryd.prog Tryd.f3 false true false false) := by
  refine returnsInHanded_of_change_and (C := Tryd.checked) (X := fun w _ => laidMetH Tryd.prog Val.laidV w) (fun _ _ _ hh h => h.of_heap hh) own started (by kernel_rfl) Tryd.func3
    (ChangeSpec.witness_shaped (enc := enc) (C := Tryd.checked) (os := os) (X := fun w _ => laidMetH Tryd.prog Val.laidV w) false (World.doorLaid Tryd.prog 400 os) #[.string ByteArray.empty] 8 rfl (World.shaped_of_RefB (by kernel_rfl) (by kernel_rfl)) (by kernel_rfl) (by kernel_rfl) (by kernel_rfl) (Val.door_met os _)) ?_
  intro W base args ds gs before hval0 hW hcnd hsz0 hL _
  have hsz : (DataW.weightsEach Tryd.prog (Tryd.f3.params.toList ++ Rows.valueBackSpec.plain.varTypes Tryd.prog) (ds ++ gs)).all (· ≤ reachBytes) = true := hsz0
  clear hsz0
  have hval : ∀ (j : Nat) t v, Tryd.f3.params[j]? = some t → args[j]? = some v → Value.okWide Tryd.prog W .any base t v := hval0
  have hW' := hW
  obtain ⟨p, q, hA0, hV, rfl, hfz, hnd⟩ := hW
  have hA : DataW.TrodAll enc Tryd.prog W 0 (fun _ => true) true Tryd.f3.params.toList args.toList ds p := hA0
  rw [Tryd.params3] at hA hval hsz
  obtain ⟨v0, vs0, d0, ds0, p0, q0, hargs, rfl, rfl, h0, r0⟩ := trodAll_cons hA
  obtain ⟨rfl, rfl, rfl⟩ := trodAll_nil r0
  obtain rfl : args = #[v0] := by cases args; simp_all
  obtain ⟨rfl, rfl⟩ := trodVars_none hV
  obtain ⟨a0, rfl, rfl, rfl, w0⟩ := open_string Tryd.underlying9 (hval 0 9 v0 rfl rfl) h0
  have s0 : a0.size ≤ 140737488351232 := by have := sized_string hsz (j := 0) (t := 9) rfl rfl; simpa [reachBytes] using this
  clear hA0 hval0
  refine (walk a0 W (Val.home_of hL) w0 s0).mono fun e W' ⟨he, bel⟩ => ?_
  subst he
  exact ⟨_, rfl, _, _, _, [], _, [], hW', trodAll_mk1 (shut_bool Tryd.underlying4 _), (trodAll_cons_mk (shut_string Tryd.underlying9 w0) trodAll_mk0), rfl, bel.frame _, fun h => by cases h⟩

theorem over : Rows.valueBackRow.holds Tryd.pinned (OpenSpec.ofChange Rows.valueBackSpec) :=
  OpenClaim.holds_of_wide 3 Tryd.f3 rfl rfl rfl rfl rfl rfl rfl ⟨rfl, rfl, rfl, rfl, rfl⟩ rfl rfl rfl rfl rfl (by kernel_rfl) Tryd.func3 (by kernel_rfl)
    (of_decide_eq_true (by kernel_rfl)) (by unfold Func.isWrapper; first | (rw [if_pos (by decide +kernel)]; kernel_rfl) | (rw [if_neg (by decide +kernel)]; exact ⟨rfl, rfl⟩))
    (fun os started H enc _ => lifted os started H enc)

end Go.Proofs.YtncagkkngbmdkaaDoor.valueBack
namespace Go.Proofs.YtncagkkngbmdkaaDoor
theorem valueBack_holds : Rows.ValueBackCardSaid :=
  Claim7.holds_tied_plain_at .later [] [.data, .data, .data, .sentinel, .sentinel] true (true, "144572b7fb924916b0d2afe7311542e541e51744ef72fae6c12f1363541a2b76") true
    valueBack.over (fun _ h => by cases h) (by kernel_rfl) (fun _ h => by cases h) valueBack_row_tie rfl ⟨rfl, rfl⟩ (by kernel_rfl) rfl
    (fun f fn hf hfn => by
      obtain rfl : f = 3 := Option.some.inj ((show Tryd.prog.funcNamed Rows.valueBackRow.func = some 3 by kernel_rfl).symm.trans hf) |>.symm
      obtain rfl : fn = Tryd.f3 := (Option.some.inj (Tryd.func3.symm.trans hfn)).symm
      exact ⟨by kernel_rfl, fun j t ht => by
        rw [Tryd.params3] at ht
        have hm : t ∈ [9] := by simpa using Array.mem_of_getElem? ht
        have hall : ([9].all fun u => !Tryd.prog.wantsStandIn u) = true := by kernel_rfl
        exact (show Tryd.prog.wantsStandIn t = false by simpa using List.all_eq_true.1 hall t hm)⟩)
    (by kernel_rfl)
#print axioms valueBack_holds
end Go.Proofs.YtncagkkngbmdkaaDoor
