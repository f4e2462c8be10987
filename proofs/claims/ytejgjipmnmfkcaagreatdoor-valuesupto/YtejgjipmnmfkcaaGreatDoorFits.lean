/-
  Whether a value fits a shape; whether it may be of a node: fits, Fits: contracts.
-/
import Derived.Test.YtejgjipmnmfkcaaGreatDoorTree
import Derived.Test.YtejgjipmnmfkcaaGreatDoorOpen
import Derived.Test.YtejgjipmnmfkcaaGreatDoorMem
import Derived.Test.YtejgjipmnmfkcaaGreatDoorUp
import Derived.Test.YtejgjipmnmfkcaaGreatDoorMay
import Derived.Test.YtejgjipmnmfkcaaGreatDoorTk
import Derived.Test.YtejgjipmnmfkcaaGreatDoorBehind
import Derived.Test.YtejgjipmnmfkcaaGreatDoorOnly
import Derived.Test.YtejgjipmnmfkcaaGreatDoorWithin
import Derived.Test.YtejgjipmnmfkcaaGreatDoorPartsC
import Derived.Test.YtejgjipmnmfkcaaGreatDoorShape
import Derived.Test.YtejgjipmnmfkcaaGreatDoorShapeOf
import Derived.Test.YtejgjipmnmfkcaaGreatDoorFitsP
import Derived.Test.YtejgjipmnmfkcaaGreatDoorFitsC
import Derived.Deep.RegionWith
namespace Go.Proofs.YtejgjipmnmfkcaaGreatDoor.Val
open Go.ChangeShapes Go.WideShapes Go.ChangeAt Go.RowKit
open Tree

/-- What the values of a nest are, for the next step down. -/
structure Downs (f : Nat) (ps : List ByteArray) : Prop where
  size : ∀ p ∈ ps, p.size ≤ 65536
  val : ∀ p ∈ ps, below f (bl p) = some p.size
set_option maxRecDepth 20000 in
set_option maxHeartbeats 1600000 in
theorem pairC (g : Nat) (ns : List Nd) (vs : Nat → Value) (f : Nat) (ih : Hid (FitsC g ns vs f)) (ks : List Nat) (hk1 : 1 ≤ ks.length) (hk8 : ks.length ≤ 8) (hkl : Hid (∀ j, j < ks.length → ks.getD j 0 < ns.length)) (x : Addr) (capx : Nat) (o : Option Addr) (cap B : Nat) (ps : List ByteArray) (hd : Hid (Downs f ps)) (w : World)
    (hx : Hid (∀ j, j < ks.length → w.cell? (x.add j) = some (.pointer (some ⟨g, ks.getD j 0 * 4, none⟩)))) (hown : Hid (w.ownsRow B 46 3 (.slice o ps.length cap) ps.length (cellsK ps))) (hi : Hid (ShInv w g ns ns.length ns.length vs)) (hw : Hid (Home w)) :
    Calls Tryz.prog 62 #[.slice (some x) ks.length capx, .slice o ps.length cap, .func (.func 39) #[] #[]] w fun r w' => r = .returned (.bool (decide (ps.length = ks.length) && (ks.zip ps).all fun q => fitsF ns f q.1 q.2)) ∧ Below w.heap.size w w' := by
  obtain ⟨w1, e1, s1, c1, b1⟩ := boxed w (.slice o ps.length cap) 68
  obtain ⟨w2, e2, s2, c2, b2⟩ := boxed w1 (.func (.func 39) #[] #[]) 93
  have c3 := cell_later b2 c1
  have B2 : Hid (Below w.heap.size w w2) := bel2 b1 b2
  by_cases he : ps.length = ks.length
  · have HE : Hid (ps.length = ks.length) := he
    have hq : (((ks.length : Nat) : Int) == ((ps.length : Nat) : Int)) = true := by rw [he]; exact beq_self_eq_true _
    obtain ⟨y, rfl, hy⟩ := row_lies hown.out (by omega)
    have HY : Hid (KLies w y ps) := hy
    have C3 : Hid (w2.cell? ⟨w.heap.size, 0, none⟩ = some (.slice (some y) ps.length cap)) := c3
    have C2 : Hid (w2.cell? ⟨w1.heap.size, 0, none⟩ = some (.func (.func 39) #[] #[])) := c2
    clear hy s1 s2 c1 b1 b2 he
    go_enter Tryz.func62, Tryz.ntmps62
    go_wp2_with fail
    clear e1 e2 c2 c3
    refine (oneS g w.heap.size w1.heap.size (fun i => fitsF ns f (ks.getD i 0) (ps.getD i ByteArray.empty)) x capx ks (by omega) w2 (fun j hj => cell_later B2.out (hx.out j hj)) (fun k v hk hv => ?_)).mono ?_
    · have hkp : k < ps.length := by have := HE.out; omega
      have hB := bel2 B2.out hv
      exact pairStep g ns vs f ih w.heap.size w1.heap.size k (ks.getD k 0) y cap ps (hkl.out k hk) hkp (hd.out.size _ (getD_memT ps k hkp)) (hd.out.val _ (getD_memT ps k hkp)) v (cell_later hv C2.out) (cell_later hv C3.out) (HY.out.later hB) (hi.out.later hB) (hw.out.later hB)
    · rintro e w3 ⟨rfl, b3⟩
      go_wp2
      go_ret
      refine ⟨ret_bool ?_, bel2 B2.out b3⟩
      rw [zip_to ks ps HE.out, decide_eq_true HE.out, Bool.true_and]
      simp only [List.getD_eq_getElem?_getD]
  · have HE : Hid (ps.length ≠ ks.length) := he
    have hq : (((ks.length : Nat) : Int) == ((ps.length : Nat) : Int)) = false := by rw [beq_eq_false_iff_ne]; omega
    clear s1 s2 c1 b1 b2 he
    go_enter Tryz.func62, Tryz.ntmps62
    go_wp2
    go_ret
    refine ⟨ret_bool ?_, B2.out⟩
    rw [decide_eq_false HE.out, Bool.false_and]
theorem kids_lt {ns : List Nd} (a : Nat) : ∀ j, j < (kids ns a).length → (kids ns a).getD j 0 < ns.length := by
  have key : ∀ k, ∀ u ∈ kidsTo ns a k, u < k := by
    intro k
    induction k with
    | zero => intro u hu; cases hu
    | succ k ih =>
      intro u hu
      rw [kidsTo] at hu
      split at hu
      · rcases List.mem_append.1 hu with c | c
        · have := ih u c; omega
        · rw [List.mem_singleton] at c; omega
      · have := ih u hu; omega
  intro j hj
  refine key ns.length _ ?_
  rw [List.getD_eq_getElem?_getD, List.getElem?_eq_getElem hj]
  exact List.getElem_mem hj
set_option maxRecDepth 20000 in
set_option maxHeartbeats 3200000 in
theorem fits_of (g : Nat) (ns : List Nd) (vs : Nat → Value) (hm : Hid (May ns)) (f : Nat) (hf : f ≤ 4) (ih : Hid (FitsC g ns vs f)) : FitsC g ns vs (f + 1) := by
  intro a v w ha hs hv hi hw
  have HV : Hid (val f (bl v) = some v.size) := hv
  have HI : Hid (ShInv w g ns ns.length ns.length vs) := hi
  have HW : Hid (Home w) := hw
  clear hv hi hw
  obtain ⟨w1, e1, s1, c1, b1⟩ := boxed w (.pointer (some ⟨g, a * 4, none⟩)) 54
  obtain ⟨w2, e2, x2, b2, z2⟩ := box3 w1 (kindOf (bl v)) v (bodyS v)
  have hB2 := bel2 b1 b2
  have B2 : Hid (Below w.heap.size w w2) := hB2
  have HI2 : Hid (ShInv w2 g ns ns.length ns.length vs) := HI.out.later hB2
  have HW2 : Hid (Home w2) := HW.out.later hB2
  have c2 := cell_later b2 c1
  have d0 := x2.c0
  have d1 := x2.c1
  have d2 := x2.c2
  have q0 := HI2.out.row.cell (a * 4) (by omega)
  have q2 := HI2.out.row.cell (a * 4 + 2) (by omega)
  rw [shC_kind _ _ _ _ ha] at q0
  rw [shC_null _ _ _ _ ha] at q2
  have HX2 : Hid (Bx w2 w1.heap.size (kindOf (bl v)) v (bodyS v)) := x2
  clear s1 c1 b1 b2 z2 x2 hB2
  by_cases k1 : kindOf (bl v) = -1
  · have HF : Hid (fitsF ns (f + 1) a v = (nd ns a).null) := fits_null hf hs HV.out k1
    generalize fitsF ns (f + 1) a v = R at *
    generalize nd ns a = n at *
    generalize bodyS v = vb at *
    generalize kindOf (bl v) = vk at *
    subst k1
    go_enter Tryz.func39, Tryz.ntmps39
    go_wp2
    go_ret
    exact ⟨ret_bool HF.out.symm, B2.out⟩
  have n1 : (kindOf (bl v) == -1) = false := by rw [beq_eq_false_iff_ne]; exact k1
  by_cases k2 : kindOf (bl v) ≠ (nd ns a).kind
  · have HF : Hid (fitsF ns (f + 1) a v = false) := fits_other hf hs HV.out k1 k2
    have n2 : (kindOf (bl v) != (nd ns a).kind) = true := by rw [bne_iff_ne]; exact k2
    generalize fitsF ns (f + 1) a v = R at *
    generalize nd ns a = n at *
    generalize bodyS v = vb at *
    generalize kindOf (bl v) = vk at *
    clear k1 k2
    go_enter Tryz.func39, Tryz.ntmps39
    go_wp2_with fail
    go_quiet (fail)
    go_wp2
    go_ret
    exact ⟨ret_bool HF.out.symm, bel2 B2.out (drewN_below _ _)⟩
  replace k2 : kindOf (bl v) = (nd ns a).kind := Decidable.of_not_not k2
  rw [← k2] at q0
  have n2 : (kindOf (bl v) != kindOf (bl v)) = false := by rw [bne_eq_false_iff_eq]
  have hbs := body_size v hs
  by_cases k3 : kindOf (bl v) = 2
  · have HF : Hid (fitsF ns (f + 1) a v = decide ((bodyS v).size ≤ 16)) := fits_bytes hf hs HV.out k3 (by rw [← k2]; exact k3)
    generalize fitsF ns (f + 1) a v = R at *
    generalize nd ns a = n at *
    generalize bodyS v = vb at *
    generalize kindOf (bl v) = vk at *
    subst k3
    clear k1 k2
    go_enter Tryz.func39, Tryz.ntmps39
    go_wp2_with fail
    go_quiet (fail)
    by_cases h16 : vb.size ≤ 16
    · have HF2 : Hid (R = true) := by unfold Hid; rw [HF.out]; exact decide_eq_true h16
      have h17 : ((vb.size : Nat) : Int) ≤ 16 := by omega
      clear h16
      go_wp2
      go_ret
      exact ⟨ret_bool (by rw [HF2.out]), bel2 B2.out (drewN_below _ _)⟩
    · have HF2 : Hid (R = false) := by unfold Hid; rw [HF.out]; exact decide_eq_false h16
      have h17 : ¬ ((vb.size : Nat) : Int) ≤ 16 := by omega
      clear h16
      go_wp2
      go_ret
      exact ⟨ret_bool (by rw [HF2.out]), bel2 B2.out (drewN_below _ _)⟩
  by_cases k4 : kindOf (bl v) = 3
  · obtain ⟨ps, h1, h2, h3⟩ := nest_parts hf hs HV.out (.inl k4)
    have HR : Hid (Row4 (bodyS v) ps) := h2
    have HD : Hid (Downs f ps) := ⟨fun p hp => by
      obtain ⟨i, hi, e⟩ := List.getElem_of_mem hp
      have := h2.pos_le (i + 1)
      rw [pos_succ ps i hi, getD_text ps i hi, e] at this
      omega, h3⟩
    have HF : Hid (fitsF ns (f + 1) a v = (decide (ps.length ≤ 64) && ps.all (fitsF ns f ((kids ns a).getD 0 0)))) := fits_list h1 k4 (by rw [← k2]; exact k4)
    have hkl : (kids ns a).length = 1 := hm.out.list a ha (by rw [← k2]; exact k4)
    have HKL : Hid ((kids ns a).length = 1 ∧ (kids ns a).getD 0 0 < ns.length) := ⟨hkl, kids_lt a 0 (by omega)⟩
    have C2 : Hid (w2.cell? ⟨w.heap.size, 0, none⟩ = some (.pointer (some ⟨g, a * 4, none⟩))) := c2
    have hpl : ps.length ≤ 65536 := Nat.le_trans h2.len hbs
    clear h1 h2 h3 hkl k1 k2 k3
    generalize fitsF ns (f + 1) a v = R at *
    generalize nd ns a = n at *
    generalize bodyS v = vb at *
    generalize kindOf (bl v) = vk at *
    subst k4
    go_enter Tryz.func39, Tryz.ntmps39
    go_wp2_with fail
    go_quiet (fail)
    have hdr := drewN_below w2 nq
    have HW3 : Hid (Home (w2.drewN nq)) := HW2.out.later hdr
    have B3 : Hid (Below w2.heap.size w2 (w2.drewN nq)) := hdr
    generalize w2.drewN nq = w3 at *
    have d3 := cell_later hdr d0
    have d4 := cell_later hdr d1
    have d5 := cell_later hdr d2
    clear hdr d0 d1 d2 q0 q2 c2 e1 e2 n1 n2
    go_wp2_with fail
    refine (withinC 3 v vb ps hbs HR w3 HW3).mono ?_
    rintro e w4 ⟨o, cap, rfl, hown4, b4⟩
    have B4 : Hid (Below w2.heap.size w2 w4) := bel2 B3.out b4
    have BB4 : Hid (Below w.heap.size w w4) := bel2 B2.out B4.out
    have HO4 : Hid (w4.ownsRow w3.heap.size 46 3 (.slice o ps.length cap) ps.length (cellsK ps)) := hown4
    clear hown4 b4 d3 d4 d5
    by_cases h64 : ps.length ≤ 64
    · have h65 : ((ps.length : Nat) : Int) ≤ 64 := by omega
      by_cases h0 : ps.length = 0
      · obtain rfl : ps = [] := List.eq_nil_of_length_eq_zero h0
        have HF2 : Hid (R = true) := HF.out
        clear h64 h0
        go_wp2_with fail
        refine (oneK0 w.heap.size o cap w4).mono ?_
        rintro e w5 ⟨rfl, b5⟩
        go_wp2
        go_ret
        exact ⟨ret_bool HF2.out.symm, bel2 BB4.out b5⟩
      · obtain ⟨y, rfl, hy⟩ := row_lies HO4.out (by omega)
        have HY : Hid (KLies w4 y ps) := hy
        have HF2 : Hid (R = allTo (fun i => fitsF ns f ((kids ns a).getD 0 0) (ps.getD i ByteArray.empty)) ps.length) := by
          unfold Hid
          rw [HF.out, decide_eq_true h64, Bool.true_and, all_to]
        obtain ⟨F, hF⟩ : ∃ F : Nat → Bool, ∀ i, F i = fitsF ns f ((kids ns a).getD 0 0) (ps.getD i ByteArray.empty) := ⟨_, fun _ => rfl⟩
        have HFF : Hid (∀ i, F i = fitsF ns f ((kids ns a).getD 0 0) (ps.getD i ByteArray.empty)) := hF
        clear h64 h0 hy hF
        go_wp2_with fail
        refine (oneK w.heap.size F y cap ps hpl w4 HY.out (fun k v2 hk hv2 => ?_)).mono ?_
        · have hB := bel2 B4.out hv2
          rw [HFF.out k]
          exact kidFits g ns vs f ih w.heap.size a k ha HKL.out.1 HKL.out.2 _ (HD.out.size _ (getD_memT ps k hk)) (HD.out.val _ (getD_memT ps k hk)) v2 (cell_later hB C2.out) (HI2.out.later hB) (HW2.out.later hB)
        · rintro e w5 ⟨rfl, b5⟩
          go_wp2
          go_ret
          refine ⟨ret_bool ?_, bel2 BB4.out b5⟩
          rw [HF2.out]
          exact allTo_congr fun i _ => HFF.out i
    · have h65 : ¬ ((ps.length : Nat) : Int) ≤ 64 := by omega
      have HF2 : Hid (R = false) := by unfold Hid; rw [HF.out, decide_eq_false h64, Bool.false_and]
      clear h64
      go_wp2
      go_ret
      exact ⟨ret_bool HF2.out.symm, BB4.out⟩
  by_cases k5 : kindOf (bl v) = 4
  · obtain ⟨ps, h1, h2, h3⟩ := nest_parts hf hs HV.out (.inr k5)
    have HR : Hid (Row4 (bodyS v) ps) := h2
    have HD : Hid (Downs f ps) := ⟨fun p hp => by
      obtain ⟨i, hi, e⟩ := List.getElem_of_mem hp
      have := h2.pos_le (i + 1)
      rw [pos_succ ps i hi, getD_text ps i hi, e] at this
      omega, h3⟩
    have HF : Hid (fitsF ns (f + 1) a v = (decide (ps.length = (kids ns a).length) && ((kids ns a).zip ps).all fun q => fitsF ns f q.1 q.2)) := fits_struct h1 k5 (by rw [← k2]; exact k5)
    have hk1 : 1 ≤ (kids ns a).length := hm.out.struct a ha (by rw [← k2]; exact k5)
    have hk8 : (kids ns a).length ≤ 8 := by have h1 := length_kidsTo ns a ns.length; have h2 := hm.out.most; show (kidsTo ns a ns.length).length ≤ 8; omega
    have HKL : Hid (∀ j, j < (kids ns a).length → (kids ns a).getD j 0 < ns.length) := kids_lt a
    obtain ⟨o, capk, e5, h5⟩ := HI2.out.kids_at a ha
    obtain ⟨x, rfl, h6⟩ := h5 hk1
    have HX : Hid (∀ j, j < (kids ns a).length → w2.cell? (x.add j) = some (.pointer (some ⟨g, (kids ns a).getD j 0 * 4, none⟩))) := h6
    have q3 := HI2.out.row.cell (a * 4 + 3) (by omega)
    rw [shC_kids, e5] at q3
    have C2 : Hid (w2.cell? ⟨w.heap.size, 0, none⟩ = some (.pointer (some ⟨g, a * 4, none⟩))) := c2
    have Q3 : Hid (w2.cell? ⟨g, a * 4 + 3, none⟩ = some (.slice (some x) (kids ns a).length capk)) := q3
    clear h1 h2 h3 k1 k2 k3 k4 e5 h5 h6
    generalize fitsF ns (f + 1) a v = R at *
    generalize nd ns a = n at *
    generalize bodyS v = vb at *
    generalize kindOf (bl v) = vk at *
    generalize kids ns a = ks at *
    subst k5
    go_enter Tryz.func39, Tryz.ntmps39
    go_wp2_with fail
    go_quiet (fail)
    have hdr := drewN_below w2 nq
    have HW3 : Hid (Home (w2.drewN nq)) := HW2.out.later hdr
    have B3 : Hid (Below w2.heap.size w2 (w2.drewN nq)) := hdr
    generalize w2.drewN nq = w3 at *
    have d3 := cell_later hdr d0
    have d4 := cell_later hdr d1
    have d5 := cell_later hdr d2
    have c3 := cell_later hdr c2
    have q4 := cell_later hdr q3
    have X3 : Hid (Bx w3 w1.heap.size 4 v vb) := HX2.out.later hdr
    clear hdr d0 d1 d2 q0 q2 q3 c2 e1 e2 n1 n2
    go_wp2_with fail
    go_region_with (first
      | (go_at_call 46; refine (withinC 4 v vb ps hbs HR _ (HW3.out.later (drewN_below _ 1))).mono ?_; rintro e w4 ⟨o4, cap4, rfl, hown4, b4⟩; have B4 : Hid (Below w2.heap.size w2 w4) := bel2 B3.out (bel2 (drewN_below _ 1) b4); have HO4 : Hid (w4.ownsRow w3.heap.size 46 3 (.slice o4 ps.length cap4) ps.length (cellsK ps)) := hown4; have c4 := cell_later B4.out C2.out; have q5 := cell_later B4.out Q3.out; clear hown4 b4)
      | (go_at_call 62; refine (pairC g ns vs f ih ks hk1 hk8 HKL x capk o4 cap4 w3.heap.size ps HD _ (fun j hj => cell_later B4.out (HX.out j hj)) HO4 (HI2.out.later B4.out) (HW2.out.later B4.out)).mono ?_; rintro e w5 ⟨rfl, b5⟩))
    all_goals
      go_wp2
      go_ret
      exact ⟨ret_bool HF.out.symm, bel2 B2.out (bel2 B4.out b5)⟩
  · have hin := kindOf_in (bl v)
    have HF : Hid (fitsF ns (f + 1) a v = true) := fits_leaf hf hs HV.out (by omega) k2
    have n3 : (kindOf (bl v) == 2) = false := by rw [beq_eq_false_iff_ne]; exact k3
    have n4 : (kindOf (bl v) == 3) = false := by rw [beq_eq_false_iff_ne]; exact k4
    have n5 : (kindOf (bl v) == 4) = false := by rw [beq_eq_false_iff_ne]; exact k5
    generalize fitsF ns (f + 1) a v = R at *
    generalize nd ns a = n at *
    generalize bodyS v = vb at *
    generalize kindOf (bl v) = vk at *
    clear k1 k2 k3 k4 k5 hin
    go_enter Tryz.func39, Tryz.ntmps39
    go_wp2_with fail
    go_quiet (fail)
    go_wp2
    go_ret
    exact ⟨ret_bool HF.out.symm, bel2 B2.out (drewN_below _ _)⟩
end Go.Proofs.YtejgjipmnmfkcaaGreatDoor.Val
