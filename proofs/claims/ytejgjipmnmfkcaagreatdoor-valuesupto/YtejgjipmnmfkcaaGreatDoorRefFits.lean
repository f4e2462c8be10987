/-
  Whether a value may be of a node of a type, as the document's own answer tells it: contracts.
-/
import Derived.Test.YtejgjipmnmfkcaaGreatDoorTree
import Derived.Test.YtejgjipmnmfkcaaGreatDoorOpen
import Derived.Test.YtejgjipmnmfkcaaGreatDoorMem
import Derived.Test.YtejgjipmnmfkcaaGreatDoorMay
import Derived.Test.YtejgjipmnmfkcaaGreatDoorPro
import Derived.Test.YtejgjipmnmfkcaaGreatDoorRefMay
import Derived.Test.YtejgjipmnmfkcaaGreatDoorRefPro
import Derived.Test.YtejgjipmnmfkcaaGreatDoorHelp
import Derived.Test.YtejgjipmnmfkcaaGreatDoorTk
import Derived.Test.YtejgjipmnmfkcaaGreatDoorPartsC
import Derived.Test.YtejgjipmnmfkcaaGreatDoorFitsP
import Derived.Test.YtejgjipmnmfkcaaGreatDoorFitsC
import Derived.Test.YtejgjipmnmfkcaaGreatDoorFits
import Derived.Test.YtejgjipmnmfkcaaGreatDoorMake
import Derived.Test.YtejgjipmnmfkcaaGreatDoorRefParts
import Derived.Deep.RegionWith
namespace Go.Proofs.YtejgjipmnmfkcaaGreatDoor.Val
open Go.ChangeShapes Go.WideShapes Go.ChangeAt Go.RowKit
open Tree
open Texts

/-- What the document's Fits answers of a value that is no deeper than told. -/
def FitsR (x : Addr) (cap : Nat) (ns : List Nd) (f : Nat) : Prop := ∀ (a : Nat) (v : ByteArray) (w : World), a < ns.length → v.size ≤ 65536 → below f (bl v) = some v.size → Lies w x ns →
  Calls Tryz.prog 23 #[.agg #[.slice (some x) ns.length cap], .int .i64 (a : Int), .string v] w fun r w' => r = .returned (.bool (fitsF ns f a v)) ∧ Below w.heap.size w w'
theorem has_yes {ns : List Nd} (hmay : may ns = true) (a : Nat) (ha : a < ns.length) : hasB ns (a : Int) = true := by
  unfold hasB
  rw [hmay, decide_eq_true ⟨by omega, by omega⟩]
  rfl
/-- A node in a block of its own. -/
theorem boxN (w : World) (k p : Int) (b : Bool) : ∃ w1, w.alloc (.cells #[.int .i64 k, .int .i64 p, .bool b] 59) = w1 ∧ w1.cell? ⟨w.heap.size, 0, none⟩ = some (.int .i64 k) ∧ w1.cell? ⟨w.heap.size, 2, none⟩ = some (.bool b) ∧ Below w.heap.size w w1 :=
  ⟨_, rfl, by simp, by simp, (Below.refl _ _).alloc (Nat.le_refl _) _⟩
theorem add_zero {x : Addr} {w : World} {v : Value} (h : w.cell? (x.add 0) = some v) : w.cell? x = some v := by
  rw [show x.add 0 = x from by unfold Addr.add; split <;> simp_all] at h
  exact h
set_option maxRecDepth 20000 in
set_option maxHeartbeats 3200000 in
theorem fitsR_of (x : Addr) (cap : Nat) (ns : List Nd) (hmay : Hid (may ns = true)) (f : Nat) (hf : f ≤ 4) (ih : Hid (FitsR x cap ns f)) : FitsR x cap ns (f + 1) := by
  intro a v w ha hs hv hx
  have HM : Hid (May ns) := may_of hmay.out
  have HV : Hid (val f (bl v) = some v.size) := hv
  obtain ⟨ps, h1, hA⟩ := parts_told (isVal_below (f := f + 1) (by omega) hs hv)
  have HPS : Hid (partsS v = some (kindOf (bl v), ps)) := h1
  have HPA : Hid (PartsA (kindOf (bl v)) (bodyS v) ps) := hA
  have HTA : Hid (TellA v (kindOf (bl v)) ps 0) := .inl ⟨h1, rfl⟩
  have HHAS : Hid (hasB ns (a : Int) = true) := has_yes hmay.out a ha
  have HKA : Hid (kidsA ns (a : Int) = kids ns a) := by unfold Hid kidsA; rw [HHAS.out, if_pos rfl]
  obtain ⟨w1, e1, s1, c1, b1⟩ := boxed w (.slice (some x) ns.length cap) 25
  have HX1 : Hid (Lies w1 x ns) := hx.later b1
  have hlen : ns.length ≤ 8 := HM.out.most
  have HT1 : Hid (IsT w1 (some x) ns) := ⟨by unfold maxLen; omega, .inr ⟨x, rfl, HX1.out⟩⟩
  have B1 : Hid (Below w.heap.size w w1) := b1
  clear h1 hA hx s1 b1 hv
  obtain ⟨R, hR⟩ : ∃ R, fitsF ns (f + 1) a v = R := ⟨_, rfl⟩
  have HR : Hid (fitsF ns (f + 1) a v = R) := hR
  rw [hR]
  clear hR
  go_enter Tryz.func23, Tryz.ntmps23
  go_wp2_with fail
  refine (nodeMay (some x) cap ns (a : Int) w1 HT1.out).mono ?_
  rintro e w2 ⟨rfl, b2⟩
  rw [HHAS.out]
  have c2 := cell_later b2 c1
  have HX2 : Hid (Lies w2 x ns) := HX1.out.later b2
  have q0 : w2.cell? (x.add (a * 3)) = some (.int .i64 (nd ns a).kind) := HX2.out.kind a ha
  have q1 := HX2.out.par' a ha
  have q2 := HX2.out.null' a ha
  have B2 : Hid (Below w.heap.size w w2) := bel2 B1.out b2
  have hin := kindOf_in (bl v)
  have hbs := body_size v hs
  clear e1 c1 b2
  obtain ⟨n, hn⟩ : ∃ n, nd ns a = n := ⟨_, rfl⟩
  have HN : Hid (nd ns a = n) := hn
  rw [hn] at q0 q1 q2
  clear hn
  obtain ⟨vk, hvk⟩ : ∃ k, kindOf (bl v) = k := ⟨_, rfl⟩
  have HVK : Hid (kindOf (bl v) = vk) := hvk
  rw [hvk] at hin HTA HPA HPS
  clear hvk
  obtain ⟨w3, e3, m0, m2, b3⟩ := boxN w2 n.kind n.par n.null
  have hget : nd ns a = ns[a] := by
    unfold nd
    rw [List.getD_eq_getElem?_getD, List.getElem?_eq_getElem ha]
    rfl
  go_wp2_with fail
  clear e3 q0 q1 q2
  refine (partsR v vk ps 0 HTA w3).mono ?_
  rintro e w4 ⟨o4, cap4, rfl, hown4, b4⟩
  have b34 := bel2 b3 b4
  have c4 := cell_later b34 c2
  have m40 := cell_later b4 m0
  have m42 := cell_later b4 m2
  have HX4 : Hid (Lies w4 x ns) := HX2.out.later b34
  have HT4 : Hid (IsT w4 (some x) ns) := ⟨by unfold maxLen; omega, .inr ⟨x, rfl, HX4.out⟩⟩
  have B4 : Hid (Below w.heap.size w w4) := bel2 B2.out b34
  have HO4 : Hid (IsTx w4 o4 ps) := own_texts hown4
  clear hown4 b34 b3 b4 m0 m2 c2 HX2 HX1 HT1 HTA hget
  by_cases k1 : vk = -1
  · have HF : Hid (R = n.null) := by unfold Hid; rw [← HR.out, fits_null hf hs HV.out (HVK.out.trans k1), HN.out]
    subst k1
    clear hin
    go_wp2
    go_ret
    exact ⟨ret_bool HF.out.symm, B4.out⟩
  have hk0 : 0 ≤ vk := by omega
  have hk4 : vk ≤ 4 := hin.2
  clear hin
  go_wp2_with fail
  refine (kidsR (some x) cap ns (a : Int) w4 HT4.out).mono ?_
  rintro e w5 ⟨o5, cap5, rfl, hown5, b5⟩
  rw [HKA.out] at hown5 ⊢
  rw [HHAS.out]
  have c5 := cell_later b5 c4
  have m50 := cell_later b5 m40
  have HX5 : Hid (Lies w5 x ns) := HX4.out.later b5
  have B5 : Hid (Below w.heap.size w w5) := bel2 B4.out b5
  have HO5 : Hid (IsTx w5 o4 ps) := HO4.out.later b5
  have HK5 : Hid (IsI w5 w4.heap.size o5 (kids ns a)) := own_ints hown5
  clear hown5 b5 m40 m42 c4 HX4 HT4 HO4 k1
  by_cases k2 : vk = n.kind
  · have n2 : (vk != vk) = false := by rw [bne_eq_false_iff_eq]
    rw [← k2] at m50
    by_cases k3 : vk = 2
    · obtain rfl : ps = [bodyS v] := by
        rcases HPA.out with ⟨c, _⟩ | ⟨c, _⟩ | ⟨_, c⟩
        · omega
        · omega
        · exact c
      have HF : Hid (R = decide ((bodyS v).size ≤ 16)) := by unfold Hid; rw [← HR.out]; exact fits_bytes hf hs HV.out (HVK.out.trans k3) (by rw [HN.out, ← k2, k3])
      clear HR HPS HPA
      generalize bodyS v = vb at *
      obtain ⟨y, rfl, hy⟩ := tx_at HO5.out (Nat.le_refl _)
      have y0 : w5.cell? y = some (.string vb) := add_zero (hy 0 (Nat.lt_succ_self 0))
      have HLF : Hid (isLeaf 2 = true) := rfl
      clear k2 hy
      subst k3
      by_cases h16 : vb.size ≤ 16
      · have HF2 : Hid (R = true) := by unfold Hid; rw [HF.out]; exact decide_eq_true h16
        have h17 : ((vb.size : Nat) : Int) ≤ 16 := by omega
        go_wp2_with fail
        go_loopw [13] (fun t wr => t = .int .i64 0 ∧ Below w.heap.size w wr) (fun _ _ => 0)
        case atStart => exact ⟨rfl, B5.out⟩
        case round =>
          obtain ⟨rfl, hbl⟩ := hrel
          go_wp2_with fail
          refine (refLeaf _ _).mono ?_
          rintro e wx ⟨rfl, hwx⟩
          subst wx
          rw [HLF.out]
          go_wp2
          go_ret
          exact ⟨ret_bool HF2.out.symm, hbl⟩
      · have HF2 : Hid (R = false) := by unfold Hid; rw [HF.out]; exact decide_eq_false h16
        have h17 : ¬ ((vb.size : Nat) : Int) ≤ 16 := by omega
        go_wp2
        go_ret
        exact ⟨ret_bool HF2.out.symm, B5.out⟩
    by_cases k4 : vk = 3
    · obtain ⟨ps', h1, h2, h3⟩ := nest_parts hf hs HV.out (.inl (HVK.out.trans k4))
      obtain rfl : ps = ps' := by
        have := HPS.out
        rw [h1, HVK.out] at this
        injection this with this
        injection this with _ this
        exact this.symm
      have HF : Hid (R = (decide (ps.length ≤ 64) && ps.all (fitsF ns f ((kids ns a).getD 0 0)))) := by unfold Hid; rw [← HR.out]; exact fits_list h1 (HVK.out.trans k4) (by rw [HN.out, ← k2, k4])
      have HNK : Hid ((kids ns a).length = 1) := HM.out.list a ha (by rw [HN.out, ← k2]; exact k4)
      have HD : Hid (Downs f ps) := ⟨fun p hp => by
        obtain ⟨i, hi, e⟩ := List.getElem_of_mem hp
        have := h2.pos_le (i + 1)
        rw [pos_succ ps i hi, getD_text ps i hi, e] at this
        omega, h3⟩
      have hpl : ps.length ≤ 65536 := Nat.le_trans h2.len hbs
      have HKLT : Hid (∀ j, j < (kids ns a).length → (kids ns a).getD j 0 < ns.length) := kids_lt a
      obtain ⟨F, hF⟩ : ∃ F : Nat → Bool, ∀ i, F i = fitsF ns f ((kids ns a).getD 0 0) (ps.getD i ByteArray.empty) := ⟨_, fun _ => rfl⟩
      have HFF : Hid (∀ i, F i = fitsF ns f ((kids ns a).getD 0 0) (ps.getD i ByteArray.empty)) := hF
      clear hF h1 h2 h3
      by_cases hc : ps.length ≤ 64
      · have HF2 : Hid (R = allTo F ps.length) := by
          unfold Hid
          rw [HF.out, decide_eq_true hc, Bool.true_and, all_to]
          exact allTo_congr fun i _ => (HFF.out i).symm
        have hks1 : 1 ≤ (kids ns a).length := by rw [HNK.out]; omega
        have hc2 : ((ps.length : Nat) : Int) ≤ 64 := by omega
        have HS : Hid (∀ (i : Nat) (y : World), i < ps.length → Below w5.heap.size w5 y → Calls Tryz.prog 23 #[.agg #[.slice (some x) ns.length cap], .int .i64 (((kids ns a).getD 0 0 : Nat) : Int), .string (ps.getD i ByteArray.empty)] y fun r w' => r = .returned (.bool (F i)) ∧ Below y.heap.size y w') := by
          intro i y hi hy
          rw [HFF.out i]
          exact ih.out _ _ y (HKLT.out _ (by omega)) (HD.out.size _ (getD_memT ps i hi)) (HD.out.val _ (getD_memT ps i hi)) (HX5.out.later hy)
        obtain ⟨g5, rfl, _, hrow⟩ := HK5.out.resolve_left (by intro e; rw [e] at hks1; cases hks1)
        have HROW : Hid (Row w5 g5 (kids ns a).length (fun i => (kids ns a).getD i 0)) := hrow
        have HC5 : Hid (w5.cell? ⟨w.heap.size, 0, none⟩ = some (.slice (some x) ns.length cap)) := c5
        clear hrow HFF HKLT HF HNK k2 k3
        generalize kids ns a = ks at *
        subst k4
        go_wp2_with fail
        go_loopw [13] (fun t wr => ∃ i : Nat, i ≤ ps.length ∧ t = .int .i64 (i : Int) ∧ (∀ j, j < i → F j = true) ∧ Below w5.heap.size w5 wr) (fun t _ => ps.length - (intOf t).toNat)
        case atStart => exact ⟨0, Nat.zero_le _, rfl, fun j hj => by omega, Below.refl _ _⟩
        case round =>
          obtain ⟨i, hil, rfl, hall, hbl⟩ := hrel
          have HA : Hid (∀ j, j < i → F j = true) := hall
          clear hall
          by_cases hlt : i < ps.length
          · obtain ⟨y, rfl, hy⟩ := tx_at HO5.out (by omega)
            have d1 := cell_later hbl (hy i hlt)
            have d2 := cell_later hbl HC5.out
            have d3 := cell_later hbl (HROW.out.cell 0 (by omega))
            have HSI : Hid (∀ (y : World), Below w5.heap.size w5 y → Calls Tryz.prog 23 #[.agg #[.slice (some x) ns.length cap], .int .i64 ((ks.getD 0 0 : Nat) : Int), .string (ps.getD i ByteArray.empty)] y fun r w' => r = .returned (.bool (F i)) ∧ Below y.heap.size y w') := fun y hy => HS.out i y hlt hy
            have HBL : Hid (Below w5.heap.size w5 wr) := hbl
            have hi0 : (0 : Int) ≤ (i : Int) := by omega
            have hi1 : (i : Int) < (ps.length : Int) := by omega
            have hk01 : (0 : Int) < (ks.length : Int) := by omega
            clear hy HS c5 m50 hbl
            generalize ps.getD i ByteArray.empty = u at *
            generalize ks.getD 0 0 = c at *
            go_wp2_with fail
            refine (refLeaf _ _).mono ?_
            rintro e wx ⟨rfl, hwx⟩
            subst wx
            rw [show isLeaf 3 = false from by decide]
            go_wp2_with fail
            go_region_with (go_at_call 23; refine (HSI.out _ (HBL.out.trans ((drewN_below _ 1).mono HBL.out.size))).mono ?_; rintro e w6 ⟨rfl, b6⟩)
            all_goals
              have HB6 : Hid (Below w5.heap.size w5 w6) := (HBL.out.trans ((drewN_below _ 1).mono HBL.out.size)).trans (b6.mono (by have := HBL.out.size; have := (drewN_below wr 1).size; omega))
              clear b6 d1 d2 d3
              cases hfi : F i
              · have HF3 : Hid (R = false) := by unfold Hid; rw [HF2.out]; exact allTo_no hlt hfi
                clear hfi
                go_wp2
                go_ret
                exact ⟨ret_bool HF3.out.symm, bel2 B5.out HB6.out⟩
              · have HFI : Hid (F i = true) := hfi
                clear hfi
                go_wp2
                go_roundw
                case rel =>
                  refine ⟨i + 1, by omega, by go_num, fun j hj => ?_, HB6.out⟩
                  by_cases e : j = i
                  · rw [e]; exact HFI.out
                  · exact HA.out j (by omega)
                case measure => simp [intOf]; omega
          · obtain rfl : i = ps.length := by omega
            have HF3 : Hid (R = true) := by unfold Hid; rw [HF2.out]; exact allTo_of HA.out
            clear HS c5 m50
            go_wp2
            go_ret
            exact ⟨ret_bool HF3.out.symm, bel2 B5.out hbl⟩
      · have HF2 : Hid (R = false) := by unfold Hid; rw [HF.out, decide_eq_false hc, Bool.false_and]
        have hc2 : ¬ ((ps.length : Nat) : Int) ≤ 64 := by omega
        clear hc HF HFF HNK HKLT k2 k3
        generalize kids ns a = ks at *
        subst k4
        go_wp2
        go_ret
        exact ⟨ret_bool HF2.out.symm, B5.out⟩
    by_cases k5 : vk = 4
    · obtain ⟨ps', h1, h2, h3⟩ := nest_parts hf hs HV.out (.inr (HVK.out.trans k5))
      obtain rfl : ps = ps' := by
        have := HPS.out
        rw [h1, HVK.out] at this
        injection this with this
        injection this with _ this
        exact this.symm
      have HF : Hid (R = (decide (ps.length = (kids ns a).length) && ((kids ns a).zip ps).all fun q => fitsF ns f q.1 q.2)) := by unfold Hid; rw [← HR.out]; exact fits_struct h1 (HVK.out.trans k5) (by rw [HN.out, ← k2, k5])
      have HNK : Hid (1 ≤ (kids ns a).length ∧ (kids ns a).length ≤ 8) := ⟨HM.out.struct a ha (by rw [HN.out, ← k2]; exact k5), by have h1 := length_kidsTo ns a ns.length; show (kidsTo ns a ns.length).length ≤ 8; omega⟩
      have HD : Hid (Downs f ps) := ⟨fun p hp => by
        obtain ⟨i, hi, e⟩ := List.getElem_of_mem hp
        have := h2.pos_le (i + 1)
        rw [pos_succ ps i hi, getD_text ps i hi, e] at this
        omega, h3⟩
      have hpl : ps.length ≤ 65536 := Nat.le_trans h2.len hbs
      have HKLT : Hid (∀ j, j < (kids ns a).length → (kids ns a).getD j 0 < ns.length) := kids_lt a
      obtain ⟨F, hF⟩ : ∃ F : Nat → Bool, ∀ i, F i = fitsF ns f ((kids ns a).getD i 0) (ps.getD i ByteArray.empty) := ⟨_, fun _ => rfl⟩
      have HFF : Hid (∀ i, F i = fitsF ns f ((kids ns a).getD i 0) (ps.getD i ByteArray.empty)) := hF
      clear hF h1 h2 h3
      by_cases hc : ps.length = (kids ns a).length
      · have HF2 : Hid (R = allTo F ps.length) := by
          unfold Hid
          rw [HF.out, decide_eq_true hc, Bool.true_and, zip_to _ _ hc, ← hc]
          exact allTo_congr fun i _ => (HFF.out i).symm
        have hks1 : 1 ≤ (kids ns a).length := HNK.out.1
        have hc2 : (((ps.length : Nat) : Int) != (((kids ns a).length : Nat) : Int)) = false := by rw [bne_eq_false_iff_eq]; omega
        have HS : Hid (∀ (i : Nat) (y : World), i < ps.length → Below w5.heap.size w5 y → Calls Tryz.prog 23 #[.agg #[.slice (some x) ns.length cap], .int .i64 (((kids ns a).getD i 0 : Nat) : Int), .string (ps.getD i ByteArray.empty)] y fun r w' => r = .returned (.bool (F i)) ∧ Below y.heap.size y w') := by
          intro i y hi hy
          rw [HFF.out i]
          exact ih.out _ _ y (HKLT.out _ (by omega)) (HD.out.size _ (getD_memT ps i hi)) (HD.out.val _ (getD_memT ps i hi)) (HX5.out.later hy)
        obtain ⟨g5, rfl, _, hrow⟩ := HK5.out.resolve_left (by intro e; rw [e] at hks1; cases hks1)
        have HROW : Hid (Row w5 g5 (kids ns a).length (fun i => (kids ns a).getD i 0)) := hrow
        have HC5 : Hid (w5.cell? ⟨w.heap.size, 0, none⟩ = some (.slice (some x) ns.length cap)) := c5
        clear hrow HFF HKLT HF HNK k2 k3 k4
        generalize kids ns a = ks at *
        subst k5
        go_wp2_with fail
        go_loopw [13] (fun t wr => ∃ i : Nat, i ≤ ps.length ∧ t = .int .i64 (i : Int) ∧ (∀ j, j < i → F j = true) ∧ Below w5.heap.size w5 wr) (fun t _ => ps.length - (intOf t).toNat)
        case atStart => exact ⟨0, Nat.zero_le _, rfl, fun j hj => by omega, Below.refl _ _⟩
        case round =>
          obtain ⟨i, hil, rfl, hall, hbl⟩ := hrel
          have HA : Hid (∀ j, j < i → F j = true) := hall
          clear hall
          by_cases hlt : i < ps.length
          · obtain ⟨y, rfl, hy⟩ := tx_at HO5.out (by omega)
            have d1 := cell_later hbl (hy i hlt)
            have d2 := cell_later hbl HC5.out
            have d3 := cell_later hbl (HROW.out.cell 0 (by omega))
            have d4 := cell_later hbl (HROW.out.cell i (by omega))
            have hk02 : (i : Int) < (ks.length : Int) := by omega
            have HSI : Hid (∀ (y : World), Below w5.heap.size w5 y → Calls Tryz.prog 23 #[.agg #[.slice (some x) ns.length cap], .int .i64 ((ks.getD i 0 : Nat) : Int), .string (ps.getD i ByteArray.empty)] y fun r w' => r = .returned (.bool (F i)) ∧ Below y.heap.size y w') := fun y hy => HS.out i y hlt hy
            have HBL : Hid (Below w5.heap.size w5 wr) := hbl
            have hi0 : (0 : Int) ≤ (i : Int) := by omega
            have hi1 : (i : Int) < (ps.length : Int) := by omega
            have hk01 : (0 : Int) < (ks.length : Int) := by omega
            clear hy HS c5 m50 hbl
            generalize ps.getD i ByteArray.empty = u at *
            generalize ks.getD i 0 = c at *
            generalize ks.getD 0 0 = c0 at *
            go_wp2_with fail
            refine (refLeaf _ _).mono ?_
            rintro e wx ⟨rfl, hwx⟩
            subst wx
            rw [show isLeaf 4 = false from by decide]
            go_wp2_with fail
            go_region_with (go_at_call 23; refine (HSI.out _ (HBL.out.trans ((drewN_below _ 1).mono HBL.out.size))).mono ?_; rintro e w6 ⟨rfl, b6⟩)
            all_goals
              have HB6 : Hid (Below w5.heap.size w5 w6) := (HBL.out.trans ((drewN_below _ 1).mono HBL.out.size)).trans (b6.mono (by have := HBL.out.size; have := (drewN_below wr 1).size; omega))
              clear b6 d1 d2 d3
              cases hfi : F i
              · have HF3 : Hid (R = false) := by unfold Hid; rw [HF2.out]; exact allTo_no hlt hfi
                clear hfi
                go_wp2
                go_ret
                exact ⟨ret_bool HF3.out.symm, bel2 B5.out HB6.out⟩
              · have HFI : Hid (F i = true) := hfi
                clear hfi
                go_wp2
                go_roundw
                case rel =>
                  refine ⟨i + 1, by omega, by go_num, fun j hj => ?_, HB6.out⟩
                  by_cases e : j = i
                  · rw [e]; exact HFI.out
                  · exact HA.out j (by omega)
                case measure => simp [intOf]; omega
          · obtain rfl : i = ps.length := by omega
            have HF3 : Hid (R = true) := by unfold Hid; rw [HF2.out]; exact allTo_of HA.out
            clear HS c5 m50
            go_wp2
            go_ret
            exact ⟨ret_bool HF3.out.symm, bel2 B5.out hbl⟩
      · have HF2 : Hid (R = false) := by unfold Hid; rw [HF.out, decide_eq_false hc, Bool.false_and]
        have hc2 : (((ps.length : Nat) : Int) != (((kids ns a).length : Nat) : Int)) = true := by rw [bne_iff_ne]; omega
        clear hc HF HFF HNK HKLT k2 k3 k4
        generalize kids ns a = ks at *
        subst k5
        go_wp2
        go_ret
        exact ⟨ret_bool HF2.out.symm, B5.out⟩
    · obtain rfl : ps = [bodyS v] := by
        rcases HPA.out with ⟨c, _⟩ | ⟨c, _⟩ | ⟨_, c⟩
        · omega
        · omega
        · exact c
      have HF2 : Hid (R = true) := by unfold Hid; rw [← HR.out]; exact fits_leaf hf hs HV.out (by rw [HVK.out]; omega) (by rw [HN.out, HVK.out]; exact k2)
      have n3 : (vk == 2) = false := by rw [beq_eq_false_iff_ne]; exact k3
      have n4 : (vk == 3) = false := by rw [beq_eq_false_iff_ne]; exact k4
      have n5 : (vk == 4) = false := by rw [beq_eq_false_iff_ne]; exact k5
      have HLF : Hid (isLeaf vk = true) := by unfold Hid isLeaf; exact decide_eq_true ⟨k4, k5⟩
      clear HR HPS HPA k2 k3 k4 k5
      go_wp2_with fail
      go_loopw [13] (fun t wr => t = .int .i64 0 ∧ Below w.heap.size w wr) (fun _ _ => 0)
      case atStart => exact ⟨rfl, B5.out⟩
      case round =>
        obtain ⟨rfl, hbl⟩ := hrel
        go_wp2_with fail
        refine (refLeaf _ _).mono ?_
        rintro e wx ⟨rfl, hwx⟩
        subst wx
        rw [HLF.out]
        go_wp2
        go_ret
        exact ⟨ret_bool HF2.out.symm, hbl⟩
  · have HF : Hid (R = false) := by unfold Hid; rw [← HR.out]; exact fits_other hf hs HV.out (by rw [HVK.out]; omega) (by rw [HVK.out, HN.out]; exact k2)
    have n2 : (vk != n.kind) = true := by rw [bne_iff_ne]; exact k2
    clear k2
    go_wp2
    go_ret
    exact ⟨ret_bool HF.out.symm, B5.out⟩
theorem fitsR_all (x : Addr) (cap : Nat) (ns : List Nd) (hmay : Hid (may ns = true)) : ∀ f, f ≤ 5 → FitsR x cap ns f := by
  intro f
  induction f with
  | zero =>
    intro _ a v w _ _ h
    cases h
  | succ f ih => exact fun hf => fitsR_of x cap ns hmay f (by omega) (ih (by omega))
theorem fitsZ_no {ns : List Nd} {a : Int} {v : ByteArray} (h : hasB ns a = false) : fitsZ ns a v = false := by
  unfold fitsZ
  unfold hasB at h
  rw [← Bool.and_assoc, h, Bool.false_and]
theorem fitsZ_yes {ns : List Nd} {a : Nat} {v : ByteArray} (h : hasB ns (a : Int) = true) : fitsZ ns (a : Int) v = fitsF ns 8 a v := by
  unfold fitsZ
  unfold hasB at h
  rw [← Bool.and_assoc, h, Bool.true_and, Int.toNat_natCast]
set_option maxRecDepth 20000 in
set_option maxHeartbeats 1600000 in
theorem fitsRZ (o : Option Addr) (cap : Nat) (ns : List Nd) (at' : Int) (v : ByteArray) (w : World) (ht : Hid (IsT w o ns)) :
    Calls Tryz.prog 23 #[.agg #[.slice o ns.length cap], .int .i64 at', .string v] w fun r w' => r = .returned (.bool (fitsZ ns at' v)) ∧ Below w.heap.size w w' := by
  cases hh : hasB ns at'
  · rw [fitsZ_no hh]
    obtain ⟨w1, e1, s1, c1, b1⟩ := boxed w (.slice o ns.length cap) 25
    have HT1 : Hid (IsT w1 o ns) := ht.out.later b1
    have B1 : Hid (Below w.heap.size w w1) := b1
    have HH : Hid (hasB ns at' = false) := hh
    clear hh s1 b1
    go_enter Tryz.func23, Tryz.ntmps23
    go_wp2_with fail
    refine (nodeMay o cap ns at' w1 HT1.out).mono ?_
    rintro e w2 ⟨rfl, b2⟩
    rw [HH.out]
    clear e1 c1
    go_wp2
    go_ret
    exact ⟨rfl, bel2 B1.out b2⟩
  · obtain ⟨a, rfl, ha, hm⟩ := has_of hh
    have HMAY : Hid (may ns = true) := by
      unfold Hid
      unfold hasB at hh
      rw [Bool.and_eq_true] at hh
      exact hh.2
    rw [fitsZ_yes hh]
    obtain ⟨x, rfl, hx⟩ := ht.out.some (by omega)
    by_cases hv : isVal (bl v)
    · have hs : v.size ≤ 65536 := by have := hv.1; rw [bl_length] at this; exact this
      have h5 : below 5 (bl v) = some v.size := by have := hv.2; rw [bl_length] at this; exact this
      rw [fits_fuel 5 8 a v (by omega) (by omega) hs h5]
      exact fitsR_all x cap ns HMAY 5 (Nat.le_refl _) a v w ha hs h5 hx
    · have HNV : Hid (partsS v = none) := partsS_none hv
      have HTA : Hid (TellA v 0 [] 700) := .inr ⟨HNV.out, rfl, rfl, rfl⟩
      have e8 : fitsF ns 8 a v = false := by rw [fitsF_succ, HNV.out]
      rw [e8]
      obtain ⟨w1, e1, s1, c1, b1⟩ := boxed w (.slice (some x) ns.length cap) 25
      have HX1 : Hid (Lies w1 x ns) := hx.later b1
      have HT1 : Hid (IsT w1 (some x) ns) := ht.out.later b1
      have B1 : Hid (Below w.heap.size w w1) := b1
      have HH : Hid (hasB ns (a : Int) = true) := hh
      clear hh hx s1 b1 e8 hv
      go_enter Tryz.func23, Tryz.ntmps23
      go_wp2_with fail
      refine (nodeMay (some x) cap ns (a : Int) w1 HT1.out).mono ?_
      rintro e w2 ⟨rfl, b2⟩
      rw [HH.out]
      have c2 := cell_later b2 c1
      have HX2 : Hid (Lies w2 x ns) := HX1.out.later b2
      have q0 : w2.cell? (x.add (a * 3)) = some (.int .i64 (nd ns a).kind) := HX2.out.kind a ha
      have q1 := HX2.out.par' a ha
      have q2 := HX2.out.null' a ha
      have B2 : Hid (Below w.heap.size w w2) := bel2 B1.out b2
      clear e1 c1 b2
      obtain ⟨n, hn⟩ : ∃ n, nd ns a = n := ⟨_, rfl⟩
      have HN : Hid (nd ns a = n) := hn
      rw [hn] at q0 q1 q2
      obtain ⟨w3, e3, m0, m2, b3⟩ := boxN w2 n.kind n.par n.null
      have hget : nd ns a = ns[a] := by
        unfold nd
        rw [List.getD_eq_getElem?_getD, List.getElem?_eq_getElem ha]
        rfl
      go_wp2_with fail
      clear e3 q0 q1 q2
      refine (partsR v 0 [] 700 HTA w3).mono ?_
      rintro e w4 ⟨o4, cap4, rfl, hown4, b4⟩
      have B4 : Hid (Below w.heap.size w w4) := bel2 B2.out (bel2 b3 b4)
      clear hown4 b4 m0 m2 b3
      go_wp2
      go_ret
      exact ⟨rfl, B4.out⟩
end Go.Proofs.YtejgjipmnmfkcaaGreatDoor.Val
