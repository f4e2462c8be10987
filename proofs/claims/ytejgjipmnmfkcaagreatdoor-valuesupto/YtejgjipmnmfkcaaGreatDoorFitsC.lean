/-
  Whether a value fits a shape: every.One, every.Pair, their closures, fits: contracts.
-/
import Derived.Test.YtejgjipmnmfkcaaGreatDoorTree
import Derived.Test.YtejgjipmnmfkcaaGreatDoorOpen
import Derived.Test.YtejgjipmnmfkcaaGreatDoorMem
import Derived.Test.YtejgjipmnmfkcaaGreatDoorUp
import Derived.Test.YtejgjipmnmfkcaaGreatDoorMay
import Derived.Test.YtejgjipmnmfkcaaGreatDoorTk
import Derived.Test.YtejgjipmnmfkcaaGreatDoorBehind
import Derived.Test.YtejgjipmnmfkcaaGreatDoorOnly
import Derived.Test.YtejgjipmnmfkcaaGreatDoorWithin
import Derived.Test.YtejgjipmnmfkcaaGreatDoorPartsC
import Derived.Test.YtejgjipmnmfkcaaGreatDoorShape
import Derived.Test.YtejgjipmnmfkcaaGreatDoorShapeOf
import Derived.Test.YtejgjipmnmfkcaaGreatDoorFitsP
import Derived.Deep.RegionWith
namespace Go.Proofs.YtejgjipmnmfkcaaGreatDoor.Val
open Go.ChangeShapes Go.WideShapes Go.ChangeAt Go.RowKit
open Tree

/-- A value that was taken, as an argument. -/
def tv (v : ByteArray) : Value := .agg #[.int .i64 (kindOf (bl v)), .string v, .string (bodyS v)]
set_option maxRecDepth 20000 in
set_option maxHeartbeats 1600000 in
theorem oneK (b : Nat) (f : Nat → Bool) (x : Addr) (cap : Nat) (ps : List ByteArray) (hlen : ps.length ≤ 65536) (w : World) (hl : KLies w x ps)
    (hstep : Hid (∀ (k : Nat) (v : World), k < ps.length → Below w.heap.size w v → Calls Tryz.prog 61 #[.int .i64 (k : Int), .agg #[.int .i64 (kindOf (bl (ps.getD k ByteArray.empty))), .string (ps.getD k ByteArray.empty), .string (bodyS (ps.getD k ByteArray.empty))], .pointer (some ⟨b, 0, none⟩)] v fun r v' => r = .returned (.bool (f k)) ∧ Below v.heap.size v v')) :
    Calls Tryz.prog 60 #[.slice (some x) ps.length cap, .func (.func 61) #[] #[.pointer (some ⟨b, 0, none⟩)]] w fun r w' => r = .returned (.bool (allTo f ps.length)) ∧ Below w.heap.size w w' := by
  go_enter Tryz.func60, Tryz.ntmps60
  go_wp2_with fail
  go_loopw [9] (fun t wr => ∃ k : Nat, k ≤ ps.length ∧ t = .int .i64 (k : Int) ∧ (∀ j, j < k → f j = true) ∧ Below w.heap.size w wr) (fun t _ => ps.length - (intOf t).toNat)
  case atStart => exact ⟨0, Nat.zero_le _, rfl, fun j hj => by omega, Below.refl _ _⟩
  case round =>
    obtain ⟨k, hk, rfl, hall, hbl⟩ := hrel
    have HA : Hid (∀ j, j < k → f j = true) := hall
    clear hall
    have hl2 := hl.later hbl
    by_cases hlt : k < ps.length
    · have hp := hl2.kind k hlt
      have hq := hl2.all' k hlt
      have hr := hl2.body' k hlt
      have HS : Hid (∀ (v : World), Below w.heap.size w v → Calls Tryz.prog 61 #[.int .i64 (k : Int), .agg #[.int .i64 (kindOf (bl (ps.getD k ByteArray.empty))), .string (ps.getD k ByteArray.empty), .string (bodyS (ps.getD k ByteArray.empty))], .pointer (some ⟨b, 0, none⟩)] v fun r v' => r = .returned (.bool (f k)) ∧ Below v.heap.size v v') := fun v hv => hstep.out k v hlt hv
      have HL : Hid (KLies w x ps) := hl
      clear hl2 hl hstep
      generalize ps.getD k ByteArray.empty = u at *
      generalize kindOf (bl u) = uk at *
      generalize bodyS u = ub at *
      obtain ⟨w4, e4, x4, b4, z4⟩ := box3 wr uk u ub
      have d0 := x4.c0
      have d1 := x4.c1
      have d2 := x4.c2
      have hb4 : Below w.heap.size w w4 := hbl.trans (b4.mono hbl.size)
      clear z4 x4 b4
      go_wp2_with fail
      refine (HS.out w4 hb4).mono ?_
      rintro e w' ⟨rfl, hb'⟩
      have HB' : Hid (Below w.heap.size w w') := hb4.trans (hb'.mono hb4.size)
      clear hb' hb4 d0 d1 d2 e4 hp hq hr
      cases hfk : f k
      · have HF : Hid (allTo f ps.length = false) := allTo_no hlt hfk
        clear hfk
        go_wp2
        go_ret
        exact ⟨ret_bool HF.out.symm, HB'.out⟩
      · have HF : Hid (f k = true) := hfk
        clear hfk
        go_wp2
        go_roundw
        case rel =>
          refine ⟨k + 1, by omega, by go_num, fun j hj => ?_, HB'.out⟩
          by_cases e : j = k
          · rw [e]; exact HF.out
          · exact HA.out j (by omega)
        case measure => simp [intOf]; omega
    · obtain rfl : k = ps.length := by omega
      have HF : Hid (allTo f ps.length = true) := allTo_of HA.out
      go_wp2
      go_ret
      exact ⟨ret_bool HF.out.symm, hbl⟩
/-- An empty list of values. -/
theorem oneK0 (b : Nat) (o : Option Addr) (cap : Nat) (w : World) :
    Calls Tryz.prog 60 #[.slice o 0 cap, .func (.func 61) #[] #[.pointer (some ⟨b, 0, none⟩)]] w fun r w' => r = .returned (.bool true) ∧ Below w.heap.size w w' := by
  go_enter Tryz.func60, Tryz.ntmps60
  go_wp2_with fail
  go_loopw [9] (fun t wr => t = .int .i64 0 ∧ wr = w) (fun _ _ => 0)
  case atStart => exact ⟨rfl, rfl⟩
  case round =>
    obtain ⟨rfl, rfl⟩ := hrel
    go_wp2
    go_ret
    exact ⟨rfl, Below.refl _ _⟩
/-- What a row of kids is. -/
theorem ShInv.kids_at {w : World} {g : Nat} {ns : List Nd} {vs : Nat → Value} (h : ShInv w g ns ns.length ns.length vs) (a : Nat) (ha : a < ns.length) :
    ∃ o cap, vs a = .slice o (kids ns a).length cap ∧ (1 ≤ (kids ns a).length → ∃ x, o = some x ∧ ∀ j, j < (kids ns a).length → w.cell? (x.add j) = some (.pointer (some ⟨g, (kids ns a).getD j 0 * 4, none⟩))) := by
  have h1 := h.own a ha
  have hk : kidsTo ns a ns.length = kids ns a := rfl
  rw [hk] at h1
  obtain ⟨o, cap, e⟩ := own_slice h1
  rw [e] at h1
  refine ⟨o, cap, e, fun h2 => ?_⟩
  rcases h1.2 with ⟨_, c⟩ | ⟨g', cap', cur, h0, _⟩
  · omega
  · injection h0 with h3 _ _
    subst h3
    refine ⟨_, rfl, fun j hj => h1.cells rfl j _ ?_⟩
    unfold ptrs
    rw [List.getElem?_map, List.getElem?_eq_getElem hj, List.getD_eq_getElem?_getD, List.getElem?_eq_getElem hj]
    rfl
/-- What fits answers of a value that is no deeper than told. -/
def FitsC (g : Nat) (ns : List Nd) (vs : Nat → Value) (f : Nat) : Prop := ∀ (a : Nat) (v : ByteArray) (w : World), a < ns.length → v.size ≤ 65536 → below f (bl v) = some v.size → ShInv w g ns ns.length ns.length vs → Home w →
  Calls Tryz.prog 39 #[.pointer (some ⟨g, a * 4, none⟩), .agg #[.int .i64 (kindOf (bl v)), .string v, .string (bodyS v)]] w fun r w' => r = .returned (.bool (fitsF ns f a v)) ∧ Below w.heap.size w w'
set_option maxRecDepth 20000 in
set_option maxHeartbeats 1600000 in
theorem kidFits (g : Nat) (ns : List Nd) (vs : Nat → Value) (f : Nat) (ih : Hid (FitsC g ns vs f)) (b a i : Nat) (ha : a < ns.length) (hk : (kids ns a).length = 1) (hkl : (kids ns a).getD 0 0 < ns.length) (v : ByteArray) (hs : v.size ≤ 65536) (hv : Hid (below f (bl v) = some v.size)) (w : World) (hb : w.cell? ⟨b, 0, none⟩ = some (.pointer (some ⟨g, a * 4, none⟩))) (hi : Hid (ShInv w g ns ns.length ns.length vs)) (hw : Hid (Home w)) :
    Calls Tryz.prog 61 #[.int .i64 (i : Int), .agg #[.int .i64 (kindOf (bl v)), .string v, .string (bodyS v)], .pointer (some ⟨b, 0, none⟩)] w fun r w' => r = .returned (.bool (fitsF ns f ((kids ns a).getD 0 0) v)) ∧ Below w.heap.size w w' := by
  obtain ⟨w1, e1, x1, b1, z1⟩ := box3 w (kindOf (bl v)) v (bodyS v)
  have d0 := x1.c0
  have d1 := x1.c1
  have d2 := x1.c2
  have hb1 := cell_later b1 hb
  have HI1 : Hid (ShInv w1 g ns ns.length ns.length vs) := hi.out.later b1
  have HW1 : Hid (Home w1) := hw.out.later b1
  obtain ⟨o, cap, e2, h2⟩ := HI1.out.kids_at a ha
  obtain ⟨x, rfl, h3⟩ := h2 (by omega)
  have c3 := HI1.out.row.cell (a * 4 + 3) (by omega)
  rw [shC_kids, e2, hk] at c3
  have c4 := h3 0 (by omega)
  rw [show x.add 0 = x from by unfold Addr.add; split <;> simp_all] at c4
  have B1 : Hid (Below w.heap.size w w1) := b1
  have HVV : Hid (∀ q, q = v → below f (bl q) = some q.size) := fun q e => by rw [e]; exact hv.out
  have HCC : Hid (∀ q w2, q = v → ShInv w2 g ns ns.length ns.length vs → Home w2 → Calls Tryz.prog 39 #[.pointer (some ⟨g, (kids ns a).getD 0 0 * 4, none⟩), .agg #[.int .i64 (kindOf (bl q)), .string q, .string (bodyS q)]] w2 fun r w' => r = .returned (.bool (fitsF ns f ((kids ns a).getD 0 0) v)) ∧ Below w2.heap.size w2 w') := fun q w2 e h1 h2 => by
    rw [e]
    exact ih.out _ v w2 hkl hs hv.out h1 h2
  clear z1 x1 b1 h2 h3 e2 hb
  generalize (kids ns a).getD 0 0 = c at *
  go_enter Tryz.func61, Tryz.ntmps61
  go_wp2_with fail
  go_region_with (go_at_call 39; refine (HCC.out v _ rfl (HI1.out.later (drewN_below _ 1)) (HW1.out.later (drewN_below _ 1))).mono ?_; rintro e w2 ⟨rfl, b2⟩)
  all_goals
    go_wp2
    go_ret
    exact ⟨rfl, bel2 B1.out (bel2 (drewN_below _ 1) b2)⟩
set_option maxRecDepth 20000 in
set_option maxHeartbeats 1600000 in
theorem oneS (g b4 b5 : Nat) (f : Nat → Bool) (x : Addr) (cap : Nat) (ks : List Nat) (hlen : ks.length ≤ 65536) (w : World) (hl : Hid (∀ j, j < ks.length → w.cell? (x.add j) = some (.pointer (some ⟨g, ks.getD j 0 * 4, none⟩))))
    (hstep : Hid (∀ (k : Nat) (v : World), k < ks.length → Below w.heap.size w v → Calls Tryz.prog 74 #[.int .i64 (k : Int), .pointer (some ⟨g, ks.getD k 0 * 4, none⟩), .pointer (some ⟨b5, 0, none⟩), .pointer (some ⟨b4, 0, none⟩)] v fun r v' => r = .returned (.bool (f k)) ∧ Below v.heap.size v v')) :
    Calls Tryz.prog 73 #[.slice (some x) ks.length cap, .func (.func 74) #[] #[.pointer (some ⟨b5, 0, none⟩), .pointer (some ⟨b4, 0, none⟩)]] w fun r w' => r = .returned (.bool (allTo f ks.length)) ∧ Below w.heap.size w w' := by
  go_enter Tryz.func73, Tryz.ntmps73
  go_wp2_with fail
  go_loopw [9] (fun t wr => ∃ k : Nat, k ≤ ks.length ∧ t = .int .i64 (k : Int) ∧ (∀ j, j < k → f j = true) ∧ Below w.heap.size w wr) (fun t _ => ks.length - (intOf t).toNat)
  case atStart => exact ⟨0, Nat.zero_le _, rfl, fun j hj => by omega, Below.refl _ _⟩
  case round =>
    obtain ⟨k, hk, rfl, hall, hbl⟩ := hrel
    have HA : Hid (∀ j, j < k → f j = true) := hall
    clear hall
    by_cases hlt : k < ks.length
    · have hp := cell_later hbl (hl.out k hlt)
      have HS : Hid (∀ (v : World), Below w.heap.size w v → Calls Tryz.prog 74 #[.int .i64 (k : Int), .pointer (some ⟨g, ks.getD k 0 * 4, none⟩), .pointer (some ⟨b5, 0, none⟩), .pointer (some ⟨b4, 0, none⟩)] v fun r v' => r = .returned (.bool (f k)) ∧ Below v.heap.size v v') := fun v hv => hstep.out k v hlt hv
      clear hstep
      generalize ks.getD k 0 = u at *
      go_wp2_with fail
      refine (HS.out wr hbl).mono ?_
      rintro e w' ⟨rfl, hb'⟩
      have HB' : Hid (Below w.heap.size w w') := hbl.trans (hb'.mono hbl.size)
      clear hb' hp
      cases hfk : f k
      · have HF : Hid (allTo f ks.length = false) := allTo_no hlt hfk
        clear hfk
        go_wp2
        go_ret
        exact ⟨ret_bool HF.out.symm, HB'.out⟩
      · have HF : Hid (f k = true) := hfk
        clear hfk
        go_wp2
        go_roundw
        case rel =>
          refine ⟨k + 1, by omega, by go_num, fun j hj => ?_, HB'.out⟩
          by_cases e : j = k
          · rw [e]; exact HF.out
          · exact HA.out j (by omega)
        case measure => simp [intOf]; omega
    · obtain rfl : k = ks.length := by omega
      have HF : Hid (allTo f ks.length = true) := allTo_of HA.out
      go_wp2
      go_ret
      exact ⟨ret_bool HF.out.symm, hbl⟩
set_option maxRecDepth 20000 in
set_option maxHeartbeats 1600000 in
theorem pairStep (g : Nat) (ns : List Nd) (vs : Nat → Value) (f : Nat) (ih : Hid (FitsC g ns vs f)) (b4 b5 i c : Nat) (y : Addr) (cap : Nat) (ps : List ByteArray) (hc : c < ns.length) (hi : i < ps.length) (hs : (ps.getD i ByteArray.empty).size ≤ 65536) (hv : Hid (below f (bl (ps.getD i ByteArray.empty)) = some (ps.getD i ByteArray.empty).size)) (w : World)
    (h5 : w.cell? ⟨b5, 0, none⟩ = some (.func (.func 39) #[] #[])) (h4 : w.cell? ⟨b4, 0, none⟩ = some (.slice (some y) ps.length cap)) (hy : Hid (KLies w y ps)) (hi2 : Hid (ShInv w g ns ns.length ns.length vs)) (hw : Hid (Home w)) :
    Calls Tryz.prog 74 #[.int .i64 (i : Int), .pointer (some ⟨g, c * 4, none⟩), .pointer (some ⟨b5, 0, none⟩), .pointer (some ⟨b4, 0, none⟩)] w fun r w' => r = .returned (.bool (fitsF ns f c (ps.getD i ByteArray.empty))) ∧ Below w.heap.size w w' := by
  have d0 := hy.out.kind i hi
  have d1 := hy.out.all' i hi
  have d2 := hy.out.body' i hi
  have j0 : (0 : Int) ≤ (i : Int) := Int.natCast_nonneg _
  have j1 : (i : Int) < (ps.length : Int) := by omega
  have HCC : Hid (∀ w2, ShInv w2 g ns ns.length ns.length vs → Home w2 → Calls Tryz.prog 39 #[.pointer (some ⟨g, c * 4, none⟩), .agg #[.int .i64 (kindOf (bl (ps.getD i ByteArray.empty))), .string (ps.getD i ByteArray.empty), .string (bodyS (ps.getD i ByteArray.empty))]] w2 fun r w' => r = .returned (.bool (fitsF ns f c (ps.getD i ByteArray.empty))) ∧ Below w2.heap.size w2 w') := fun w2 h1 h2 => ih.out _ _ w2 hc hs hv.out h1 h2
  clear hv hs
  generalize ps.getD i ByteArray.empty = v at *
  go_enter Tryz.func74, Tryz.ntmps74
  go_wp2_with fail
  go_region_with (go_at_call 39; refine (HCC.out _ (hi2.out.later (drewN_below _ 1)) (hw.out.later (drewN_below _ 1))).mono ?_; rintro e w2 ⟨rfl, b2⟩)
  all_goals
    go_wp2
    go_ret
    exact ⟨rfl, bel2 (drewN_below _ 1) b2⟩
end Go.Proofs.YtejgjipmnmfkcaaGreatDoor.Val
