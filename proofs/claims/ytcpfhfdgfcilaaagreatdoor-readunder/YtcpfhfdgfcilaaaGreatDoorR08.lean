/-
  Several texts in one: Arrays by runs: isRun: contract. · Whether an array may be: May: contract. · Whether an array may be: May: contract. · Whether an array may be, behind its head: May: contract.
-/
import Derived.Test.YtcpfhfdgfcilaaaGreatDoorR07
import Derived.Laws.AppendOwnNone
import Derived.OwnWalk
import Derived.Laws.OwnMore
namespace Go.Proofs.YtcpfhfdgfcilaaaGreatDoor.Arr
open Go.ChangeShapes Go.WideShapes Go.ChangeAt Go.RowKit
open Tree Val

theorem mayZ_len {ns : List Nd} {at' : Int} {f : Nat} {k : Arr} (h : mayZ ns at' f k = true) : 0 ≤ k.length ∧ k.length ≤ 64 := by
  unfold mayZ at h
  rw [Bool.and_eq_true] at h
  cases f with
  | zero => cases h.2
  | succ f =>
    have hh := (mayF_cases h.2).1
    have h1 := hh.off
    have h2 := hh.len
    have h3 := hh.rows
    omega
/-- A 0, and the numbers behind it. -/
def runP (s : ByteArray) (L : Nat) : List Nat := [0] ++ (List.range L).map (endAt s)
theorem runP_len (s : ByteArray) (L : Nat) : (runP s L).length = L + 1 := by
  unfold runP
  rw [List.length_append, List.length_map, List.length_range]
  exact Nat.add_comm _ _
theorem getD_behind (g : Nat → Nat) (L i : Nat) (hi : i < L) : ([0] ++ (List.range L).map g).getD (i + 1) 0 = g i := by
  rw [List.getD_eq_getElem?_getD, List.getElem?_append_right (by simp), List.length_singleton, Nat.add_sub_cancel, List.getElem?_map, List.getElem?_range hi, Option.map_some, Option.getD_some]
theorem runP_at (s : ByteArray) (L i : Nat) (hi : i ≤ L) : (runP s L).getD i 0 = prev s i := by
  unfold runP
  cases i with
  | zero =>
    rw [prev_zero, List.getD_eq_getElem?_getD, List.getElem?_append_left (by simp)]
    simp
  | succ i => rw [prev_succ, getD_behind _ _ _ (by omega)]
theorem beside59 (x y : Int) : besideF 136 x y = decide (x < y) := by
  unfold besideF
  rw [if_neg (by decide)]
theorem rise_all (s : ByteArray) (L : Nat) : allTo (fun i => besideF 136 (((runP s L).getD i 0 : Nat) : Int) (((runP s L).getD (i + 1) 0 : Nat) : Int)) L = riseE s L := by
  rw [Bool.eq_iff_iff, rise_iff]
  constructor
  · intro h i hi
    have := allTo_at h hi
    rw [runP_at s L i (by omega), runP_at s L (i + 1) (by omega), prev_succ, beside59, decide_eq_true_eq] at this
    omega
  · intro h
    refine allTo_of fun i hi => ?_
    have := h i hi
    rw [runP_at s L i (by omega), runP_at s L (i + 1) (by omega), prev_succ, beside59, decide_eq_true_eq]
    omega
theorem one_ints (p : List Nat) : ∀ u ∈ ints p, u.oneCell' = true := by
  intro u hu
  obtain ⟨b, _, rfl⟩ := List.mem_map.1 hu
  rfl
set_option maxRecDepth 20000 in
set_option maxHeartbeats 1600000 in
theorem beside2 (H : Nat) (hH : H = 175 ∨ H = 136) (g off cap n : Nat) (z : Nat → Int) (hn : n ≤ 65535) (hcap : n + 1 ≤ cap) (hc2 : cap ≤ 9223372036854775807) (hq : Hid (∀ k, k < n → Near H (z k) (z (k + 1)))) (w : World) (hl : Hid (IntsAt w g off (n + 1) z)) :
    Calls Tryz.prog 135 #[.slice (some ⟨g, off, none⟩) (n + 1) cap, .func (.func H) #[] #[]] w fun r w' => r = .returned (.bool (allTo (fun i => besideF H (z i) (z (i + 1))) n)) ∧ Below w.heap.size w w' := by
  have HCC : Hid (∀ v c1 off2 c2, Below w.heap.size w v → (n = 0 ∨ off2 = off + 1) → Calls Tryz.prog 176 #[.slice (some ⟨g, off, none⟩) n c1, .slice (some ⟨g, off2, none⟩) n c2, .func (.func H) #[] #[]] v fun r w' => r = .returned (.bool (allTo (fun i => besideF H (z i) (z (i + 1))) n)) ∧ Below v.heap.size v w') := fun v c1 off2 c2 hv ho =>
    pairII H hH g off c1 g off2 c2 n z (fun i => z (i + 1)) (by omega) hq.out v (fun j hj => cell_later hv (hl.out j (by omega))) (fun j hj => by
      have := cell_later hv (hl.out (j + 1) (by omega))
      rcases ho with ho | ho
      · omega
      · rw [show off + (j + 1) = off2 + j from by omega] at this; exact this)
  generalize allTo (fun i => besideF H (z i) (z (i + 1))) n = R at *
  have hne := BW.some w
  clear hq hl
  by_cases h1 : cap = 1
  · obtain rfl : n = 0 := by omega
    subst h1
    rcases hH with rfl | rfl
    all_goals
      go_enter Tryz.func135, Tryz.ntmps135
      go_wp2_with fail
      refine region_in (C := fun w' => ∃ s : BW w, w' = s.w) (by kernel_rfl) (by kernel_rfl) ⟨⟨w.drew, (Below.refl _ _).drew⟩, rfl⟩ ?_
      repeat (go_big_quiet_step (first
        | (go_at_call 176; rename_i s; refine (HCC.out s.w _ off _ s.ok (.inl trivial)).mono ?_; rintro e wx ⟨rfl, hbx⟩; exact ⟨rfl, ⟨wx, bel2 s.ok hbx⟩, rfl⟩)))
      refine wpQuiet_nil ?_
      intro _ hw'
      obtain ⟨s, hw''⟩ := hw'
      subst hw''
      have HE : Hid (Below w.heap.size w s.w) := s.ok
      clear hne
      go_wp2
      go_ret
      exact ⟨rfl, HE.out⟩
  · have j0 : (0 : Int) ≤ (n : Int) := Int.natCast_nonneg _
    have j1 : (n : Int) ≤ (cap : Int) := by omega
    have j2 : (1 : Int) ≤ (n : Int) + 1 := by omega
    have j3 : n ≤ cap := by omega
    have hw : IntKind.i64.wrap (n : Int) = (n : Int) := by rw [IntKind.wrap_i64]; omega
    rcases hH with rfl | rfl
    all_goals
      go_enter Tryz.func135, Tryz.ntmps135
      go_wp2_with fail
      refine region_in (C := fun w' => ∃ s : BW w, w' = s.w) (by kernel_rfl) (by kernel_rfl) ⟨⟨w.drew, (Below.refl _ _).drew⟩, rfl⟩ ?_
      repeat (go_big_quiet_step (first
        | (go_at_call 176; rename_i s; refine (HCC.out s.w _ (off + 1) _ s.ok (.inr rfl)).mono ?_; rintro e wx ⟨rfl, hbx⟩; exact ⟨rfl, ⟨wx, bel2 s.ok hbx⟩, rfl⟩)))
      refine wpQuiet_nil ?_
      intro _ hw'
      obtain ⟨s, hw''⟩ := hw'
      subst hw''
      have HE : Hid (Below w.heap.size w s.w) := s.ok
      clear hne
      go_wp2
      go_ret
      exact ⟨rfl, HE.out⟩
set_option maxRecDepth 20000 in
set_option maxHeartbeats 3200000 in
theorem isRun_w (B bytes f : Nat) (ih : Hid (MayC B bytes f)) (ns : List Nd) (oT : Option Addr) (capT : Nat) (at' : Int) (a : Arr) (o : Option Addr) (cap : Nat) (ho : Ok a) (R : Bool) (w : World) (ht : Hid (IsT w oT ns)) (hh : Hid (HoldsF B bytes w (f + 1) (a.cells o cap) a))
    (hR : Hid (∀ okb m, okb = (decide (a.kids.length = 1) && decide ((kidAt a 0).layout = 0) && mayZ ns at' f (kidAt a 0)) → (okb = true → m = (kidAt a 0).length) → (R = true ↔ okb = true ∧ a.valid.size = 0 ∧ a.ends.size = 0 ∧ (a.data.size : Int) = 4 * m ∧ all4 a.data m.toNat = true ∧ rowsOf a ≤ prev a.data m.toNat ∧ riseE a.data m.toNat = true))) :
    Calls Tryz.prog 76 #[.agg #[.slice oT ns.length capT], .int .i64 at', a.val o cap] w fun r w' => r = .returned (.bool R) ∧ Below w.heap.size w w' := by
  obtain ⟨k, ok, ck, okb, hb, hokb, hkk⟩ := baseC B bytes f ih.out ns oT capT at' a o cap w ht.out hh.out
  have HR : Hid (R = true ↔ okb = true ∧ a.valid.size = 0 ∧ a.ends.size = 0 ∧ (a.data.size : Int) = 4 * k.length ∧ all4 a.data k.length.toNat = true ∧ rowsOf a ≤ prev a.data k.length.toNat ∧ riseE a.data k.length.toNat = true) := hR.out okb k.length hokb (fun h => by rw [hkk h])
  have HKL : Hid (okb = true → 0 ≤ k.length ∧ k.length ≤ 64) := fun h => by
    rw [hkk h]
    rw [hokb, Bool.and_eq_true] at h
    exact mayZ_len h.2
  obtain ⟨w1, e1, s1, c1, b1⟩ := boxed w (.slice oT ns.length capT) 24
  obtain ⟨w2, e2, x2, b2, z2⟩ := box7 w1 a o cap
  have B2 : Hid (Below w.heap.size w w2) := bel2 b1 b2
  have HB : Hid (Calls Tryz.prog 132 #[.agg #[.slice oT ns.length capT], .int .i64 at', a.val o cap] w2 fun r w' => r = .returned (.tuple #[k.val ok ck, .bool okb]) ∧ Below w2.heap.size w2 w') := hb w2 B2.out
  have X2 : Hid (Bx w2 w1.heap.size a o cap) := x2
  have cT := cell_later b2 c1
  have d0 := x2.c0
  have d1 := x2.c1
  have d2 := x2.c2
  have d3 := x2.c3
  have d4 := x2.c4
  have d5 := x2.c5
  have d6 := x2.c6
  have HO : Hid (Ok a) := ho
  unfold Arr.val at HB ⊢
  clear hb hokb hkk b1 b2 x2 z2 s1 c1 ih ht hh hR ho
  obtain ⟨i3, hi3, hz0, hz1, hz2⟩ := info_parts info3
  have HI3 : Hid (Tryz.prog.info? 3 = some i3 ∧ i3.zero = some (.int .i64 0) ∧ i3.size = 1 ∧ i3.bytes = 8) := ⟨hi3, hz0, hz1, hz2⟩
  clear hi3 hz0 hz1 hz2
  have HFA : Hid (¬ (okb = true ∧ a.valid.size = 0 ∧ a.ends.size = 0 ∧ (a.data.size : Int) = 4 * k.length ∧ all4 a.data k.length.toNat = true) → R = false) := fun h => by
    cases c : R
    · rfl
    · have := HR.out.1 c
      exact absurd ⟨this.1, this.2.1, this.2.2.1, this.2.2.2.1, this.2.2.2.2.1⟩ h
  cases okb with
  | false =>
    have HN : Hid (R = false) := HFA.out (fun h => by cases h.1)
    go_enter Tryz.func76, Tryz.ntmps76
    go_wp2_with fail
    refine HB.out.mono ?_
    rintro e w3 ⟨rfl, b3⟩
    have B3 : Hid (Below w2.heap.size w2 w3) := b3
    clear b3 d0 d1 d2 d3 d4 d5 d6 cT e1 e2
    obtain ⟨w4, e4, x4, b4, z4⟩ := box7 w3 k ok ck
    have B4 : Hid (Below w.heap.size w w4) := bel2 B2.out (bel2 B3.out b4)
    clear x4 b4 z4
    go_wp2
    go_ret
    exact ⟨ret_bool HN.out.symm, B4.out⟩
  | true =>
    obtain ⟨hl0, hl1⟩ := HKL.out rfl
    obtain ⟨L, hL⟩ := Int.eq_ofNat_of_zero_le hl0
    have hL64 : L ≤ 64 := by omega
    have HLL : Hid (k.length = (L : Int)) := hL
    have HLT : Hid (k.length.toNat = L) := by unfold Hid; omega
    clear hl0 hl1 hL HKL
    go_enter Tryz.func76, Tryz.ntmps76
    go_wp2_with fail
    refine HB.out.mono ?_
    rintro e w3 ⟨rfl, b3⟩
    have B3 : Hid (Below w2.heap.size w2 w3) := b3
    clear b3 d0 d1 d2 d3 d4 d5 d6 cT e1 e2
    obtain ⟨w4, e4, x4, b4, z4⟩ := box7 w3 k ok ck
    have X4 : Hid (Bx w4 w1.heap.size a o cap) := X2.out.later (bel2 B3.out b4)
    have K4 : Hid (Bx w4 w3.heap.size k ok ck) := x4
    have B4 : Hid (Below w.heap.size w w4) := bel2 B2.out (bel2 B3.out b4)
    have d3 := X4.out.c3
    have d4 := X4.out.c4
    have d5 := X4.out.c5
    have q2 := K4.out.c2
    rw [HLL.out] at q2
    clear x4 b4 z4
    by_cases hv : a.valid.size = 0
    · have HV : Hid (a.valid.size = 0) := hv
      rw [empty_of hv] at d3
      clear hv
      by_cases he : a.ends.size = 0
      · have HE : Hid (a.ends.size = 0) := he
        rw [empty_of he] at d4
        clear he
        by_cases hd : (a.data.size : Int) = 4 * (L : Int)
        · have HD : Hid ((a.data.size : Int) = 4 * (L : Int)) := hd
          have hd2 : (((a.data.size : Nat) : Int) != 4 * (L : Int)) = false := by rw [hd]; simp
          clear hd
          have hds : a.data.size ≤ 4096 := HO.out.data
          have HLa : Hid (a.length = a.length) := rfl
          cases h4 : all4 a.data L with
          | false =>
            have HN : Hid (R = false) := HFA.out (fun h => by have := h.2.2.2.2; rw [HLT.out, h4] at this; cases this)
            have HS : Hid (∀ v, Calls Tryz.prog 134 #[.string a.data, .int .i64 (L : Int)] v fun r w' => r = .returned (.tuple #[.slice none 0 0, .bool false]) ∧ Below v.heap.size v w') := fun v => shorts_no a.data L hds (by omega) h4 v
            clear h4
            go_wp2_with fail
            refine (HS.out w4).mono ?_
            rintro e w5 ⟨rfl, b5⟩
            have B5 : Hid (Below w.heap.size w w5) := bel2 B4.out b5
            have hown : (w5.alloc (.cells #[.int .i64 0] 3)).ownsRow w5.heap.size 3 1 (.slice (some ⟨w5.heap.size, 0, none⟩) 1 1) 1 (ints [0]) := by
              have := World.ownsRow_lit (base := w5.heap.size) (e := 3) (size := 1) w5 #[.int .i64 0] 1 (Nat.le_refl _) (by unfold maxLen; omega) rfl
              simpa [ints] using this
            have B6 : Hid (Below w.heap.size w (w5.alloc (.cells #[.int .i64 0] 3))) := bel2 B5.out ((Below.refl _ _).alloc (Nat.le_refl _) _)
            clear b5
            go_wp2_with (at_builtin; refine wpList_append_own_none rfl (.tmp 46) (.tmp 47) 38 rfl w5.heap.size 3 i3 1 Tryz.underlying38 HI3.out.1 _ 1 _ rfl hown rfl ?_)
            generalize w5.alloc (.cells #[.int .i64 0] 3) = w6 at *
            clear hown
            go_wp2_with fail
            go_quiet (fail)
            go_wp2
            go_ret
            exact ⟨ret_bool HN.out.symm, bel2 B6.out (drewN_below _ _)⟩
          | true =>
            have H4 : Hid (all4 a.data L = true) := h4
            have HS : Hid (∀ v, Calls Tryz.prog 134 #[.string a.data, .int .i64 (L : Int)] v fun r w' => r = .returned (.tuple #[.slice (some ⟨v.heap.size, 0, none⟩) L L, .bool true]) ∧ Row w' v.heap.size L (endAt a.data) ∧ Below v.heap.size v w') := fun v => shorts_yes a.data L hds (by omega) h4 v
            clear h4
            go_wp2_with fail
            refine (HS.out w4).mono ?_
            rintro e w5 ⟨rfl, r5, b5⟩
            have B5 : Hid (Below w4.heap.size w4 w5) := b5
            have b6 : Below w5.heap.size w5 (w5.alloc (.cells #[.int .i64 0] 3)) := (Below.refl _ _).alloc (Nat.le_refl _) _
            have r6 := r5.later b6
            have hown : (w5.alloc (.cells #[.int .i64 0] 3)).ownsRow w5.heap.size 3 1 (.slice (some ⟨w5.heap.size, 0, none⟩) 1 1) 1 (ints [0]) := by
              have := World.ownsRow_lit (base := w5.heap.size) (e := 3) (size := 1) w5 #[.int .i64 0] 1 (Nat.le_refl _) (by unfold maxLen; omega) rfl
              simpa [ints] using this
            have hz6 : w5.heap.size ≤ (w5.alloc (.cells #[.int .i64 0] 3)).heap.size := b6.size
            clear b5 r5
            go_wp2_with (at_builtin; refine wpList_append_own _ rfl (.tmp 46) (.tmp 47) 38 rfl w5.heap.size 3 i3 (.int .i64 0) 1 8 Tryz.underlying38 HI3.out.1 HI3.out.2.1 HI3.out.2.2.1 HI3.out.2.2.2 rfl (by decide) _ 1 _ rfl hown ⟨w4.heap.size, 0, none⟩ L L (ints ((List.range L).map (endAt a.data))) rfl ?c0 ?c1 ?c2 ?c3 ?c4 ?c5 ?_)
            case c0 => simp [ints]
            case c1 =>
              intro j u hj
              unfold ints at hj
              rw [List.getElem?_map, List.getElem?_map] at hj
              have hjL : j < L := by
                by_cases c : j < L
                · exact c
                · rw [List.getElem?_eq_none (by simp; omega)] at hj; cases hj
              rw [List.getElem?_range hjL, Option.map_some, Option.map_some] at hj
              injection hj with hj
              rw [← hj, Addr.add_lit, Nat.zero_add]
              exact r6.cell j hjL
            case c2 => exact one_ints _
            case c3 => unfold maxLen; omega
            case c4 => omega
            case c5 => exact hz6
            intro v' w7 hown' hgrow _
            have b7 : Below w5.heap.size (w5.alloc (.cells #[.int .i64 0] 3)) w7 := (Below.refl _ _).grown hgrow (by omega) (fun j hj => (hown.lt j hj).1)
            have B7 : Hid (Below w4.heap.size w4 w7) := bel2 B5.out (b6.trans b7)
            obtain ⟨o7, c7, rfl⟩ := own_slice hown'
            have hown2 : w7.ownsRow w5.heap.size 3 1 (.slice o7 (runP a.data L).length c7) (runP a.data L).length (ints (runP a.data L)) := by
              rw [runP_len, Nat.add_comm L 1]
              have e : ints [0] ++ ints ((List.range L).map (endAt a.data)) = ints (runP a.data L) := by unfold runP ints; rw [List.map_append]
              rw [e] at hown'
              exact hown'
            have hI := own_ints hown2
            have hcap : L + 1 ≤ c7 := by
              rcases hown2.2 with ⟨h0, h1⟩ | ⟨g', cap', cur, h0, _, _, hle, _, _⟩
              · have : (runP a.data L).length = 0 := h1
                rw [runP_len] at this
                omega
              · injection h0 with _ _ h2
                rw [runP_len] at hle
                omega
            have hcm : c7 ≤ 9223372036854775807 := by
              rcases hown2.2 with ⟨h0, h1⟩ | ⟨g', cap', cur, h0, _, _, hle, hm, _⟩
              · have : (runP a.data L).length = 0 := h1
                rw [runP_len] at this
                omega
              · injection h0 with _ _ h2
                unfold maxLen at hm
                omega
            rcases hI with hI | ⟨g, rfl, _, hrow⟩
            · have := runP_len a.data L
              rw [hI] at this
              cases this
            have HROW : Hid (Row w7 g (L + 1) (fun i => (runP a.data L).getD i 0)) := by rw [runP_len] at hrow; exact hrow
            clear hown hown' hown2 hgrow b7 b6 r6 hrow
            have HRo : Hid (∀ v, Calls Tryz.prog 124 #[a.val o cap] v fun r w' => r = .returned (.int .i64 ((rowsOf a : Nat) : Int)) ∧ Below v.heap.size v w') := fun v => rows a o cap HO.out.off HO.out.len HO.out.rows v
            have HBs : Hid (∀ v, Below w7.heap.size w7 v → Calls Tryz.prog 135 #[.slice (some ⟨g, 0, none⟩) (L + 1) c7, .func (.func 136) #[] #[]] v fun r w' => r = .returned (.bool (riseE a.data L)) ∧ Below v.heap.size v w') := fun v hv => by
              have := beside2 136 (.inr rfl) g 0 c7 L (fun i => (((runP a.data L).getD i 0 : Nat) : Int)) (by omega) hcap hcm (fun k _ => .inr rfl) v (fun j hj => by rw [Nat.zero_add]; exact cell_later hv (HROW.out.cell j hj))
              rw [rise_all] at this
              exact this
            have HRR : Hid (R = true ↔ rowsOf a ≤ prev a.data L ∧ riseE a.data L = true) := by
              unfold Hid
              rw [HR.out, HLT.out, HLL.out]
              constructor
              · intro h
                exact h.2.2.2.2.2
              · intro h
                exact ⟨trivial, HV.out, HE.out, HD.out, H4.out, h⟩
            have X7 := X4.out.later B7.out
            have Y7 := K4.out.later B7.out
            have C := X7.cells
            have d0 := C.d0
            have d1 := C.d1
            have d2 := C.d2
            have d3 := C.d3
            have d4 := C.d4
            have d5 := C.d5
            have d6 := C.d6
            have q2 : ∀ s : BW w7, s.w.cell? ⟨w3.heap.size, 2, none⟩ = some (.int .i64 (L : Int)) := fun s => by have := (Y7.later s.ok).c2; rw [HLL.out] at this; exact this
            have t0 : ∀ s : BW w7, s.w.cell? ⟨g, L, none⟩ = some (.int .i64 ((prev a.data L : Nat) : Int)) := fun s => by have := cell_later s.ok (HROW.out.cell L (by omega)); rw [runP_at _ _ _ (Nat.le_refl _)] at this; exact this
            have hne := BW.some w7
            have BW7 : Hid (Below w.heap.size w w7) := bel2 B4.out B7.out
            have j1 : (L : Int) < (L : Int) + 1 := by omega
            have j2 : (0 : Int) ≤ (L : Int) := by omega
            unfold Arr.val at HRo
            clear C X7 Y7 hz6 hcap hcm HROW HS hds HLa HI3 HFA HB HR
            rw [Nat.add_comm 1 L]
            generalize prev a.data L = P at *
            generalize riseE a.data L = RS at *
            generalize rowsOf a = n at *
            by_cases hp : n ≤ P
            · have hp2 : (n : Int) ≤ (P : Int) := by omega
              have HN : Hid (R = RS) := by
                unfold Hid
                rw [Bool.eq_iff_iff, HRR.out]
                exact ⟨fun h => h.2, fun h => ⟨hp, h⟩⟩
              go_wp2_with fail
              refine region_in (C := fun w' => ∃ s : BW w7, w' = s.w) (by kernel_rfl) (by kernel_rfl) ⟨⟨w7.drew, (Below.refl _ _).drew⟩, rfl⟩ ?_
              repeat (go_big_quiet_step (first
                | (go_at_call 124; rename_i s; refine (HRo.out s.w).mono ?_; rintro e wx ⟨rfl, hbx⟩; exact ⟨rfl, ⟨wx, bel2 s.ok hbx⟩, rfl⟩)
                | (go_at_call 135; rename_i s; refine (HBs.out s.w s.ok).mono ?_; rintro e wx ⟨rfl, hbx⟩; exact ⟨rfl, ⟨wx, bel2 s.ok hbx⟩, rfl⟩)))
              refine wpQuiet_nil ?_
              intro _ hw'
              obtain ⟨s, hw''⟩ := hw'
              subst hw''
              have HE2 : Hid (Below w.heap.size w s.w) := bel2 BW7.out s.ok
              clear hne d0 d1 d2 d3 d4 d5 d6 q2 t0
              go_wp2
              go_ret
              exact ⟨ret_bool HN.out.symm, HE2.out⟩
            · have hp2 : ¬ (n : Int) ≤ (P : Int) := by omega
              have HN : Hid (R = false) := by
                unfold Hid
                cases c : R
                · rfl
                · exact absurd (HRR.out.1 c).1 hp
              go_wp2_with fail
              refine region_in (C := fun w' => ∃ s : BW w7, w' = s.w) (by kernel_rfl) (by kernel_rfl) ⟨⟨w7.drew, (Below.refl _ _).drew⟩, rfl⟩ ?_
              repeat (go_big_quiet_step (first
                | (go_at_call 124; rename_i s; refine (HRo.out s.w).mono ?_; rintro e wx ⟨rfl, hbx⟩; exact ⟨rfl, ⟨wx, bel2 s.ok hbx⟩, rfl⟩)
                | (go_at_call 135; rename_i s; refine (HBs.out s.w s.ok).mono ?_; rintro e wx ⟨rfl, hbx⟩; exact ⟨rfl, ⟨wx, bel2 s.ok hbx⟩, rfl⟩)))
              refine wpQuiet_nil ?_
              intro _ hw'
              obtain ⟨s, hw''⟩ := hw'
              subst hw''
              have HE2 : Hid (Below w.heap.size w s.w) := bel2 BW7.out s.ok
              clear hne d0 d1 d2 d3 d4 d5 d6 q2 t0
              go_wp2
              go_ret
              exact ⟨ret_bool HN.out.symm, HE2.out⟩
        · have HN : Hid (R = false) := HFA.out (fun h => hd (by have := h.2.2.2.1; rw [HLL.out] at this; exact this))
          have hd2 : (((a.data.size : Nat) : Int) != 4 * (L : Int)) = true := by rw [bne_iff_ne]; exact hd
          clear hd
          go_wp2
          go_ret
          exact ⟨ret_bool HN.out.symm, B4.out⟩
      · have HN : Hid (R = false) := HFA.out (fun h => he h.2.2.1)
        have hev := ne_empty he
        clear he
        go_wp2
        go_ret
        exact ⟨ret_bool HN.out.symm, B4.out⟩
    · have HN : Hid (R = false) := HFA.out (fun h => hv h.2.1)
      have hev := ne_empty hv
      clear hv
      go_wp2
      go_ret
      exact ⟨ret_bool HN.out.symm, B4.out⟩
end Go.Proofs.YtcpfhfdgfcilaaaGreatDoor.Arr
namespace Go.Proofs.YtcpfhfdgfcilaaaGreatDoor.Arr
open Go.ChangeShapes Go.WideShapes Go.ChangeAt Go.RowKit
open Tree Val

/-- What May asks of an array by runs. -/
def runA' (ns : List Nd) (f n : Nat) (a : Arr) : Bool := decide (a.kids.length = 1) && decide (a.ends.size = 0) && decide ((kidAt a 0).layout = 0) && mayF ns f n (kidAt a 0) && runB a
theorem isRun (B bytes f : Nat) (ih : MayC B bytes f) (ns : List Nd) (oT : Option Addr) (capT n : Nat) (hn : n < ns.length) (hm : may ns = true) (a : Arr) (o : Option Addr) (cap : Nat) (ho : Ok a) (w : World) (ht : IsT w oT ns) (hh : HoldsF B bytes w (f + 1) (a.cells o cap) a) :
    Calls Tryz.prog 76 #[.agg #[.slice oT ns.length capT], .int .i64 (n : Int), a.val o cap] w fun r w' => r = .returned (.bool (runA' ns f n a)) ∧ Below w.heap.size w w' := by
  refine isRun_w B bytes f ih ns oT capT n a o cap ho _ w ht hh (fun okb m h1 h2 => ?_)
  rw [mayZ_kid hm hn] at h1
  unfold runA' runB
  rw [run_ends]
  constructor
  · intro h
    simp only [Bool.and_eq_true, decide_eq_true_eq] at h
    obtain ⟨⟨⟨⟨c1, c2⟩, c3⟩, c4⟩, ⟨⟨c5, c6⟩, c7⟩, c8⟩ := h
    have h3 : okb = true := by rw [h1, decide_eq_true c1, decide_eq_true c3, c4]; rfl
    obtain rfl := h2 h3
    exact ⟨h3, c5, c2, c6, c7.1, c8, c7.2⟩
  · rintro ⟨c1, c2, c3, c4, c5, c6, c7⟩
    obtain rfl := h2 c1
    rw [c1] at h1
    have h1 := h1.symm
    simp only [Bool.and_eq_true, decide_eq_true_eq] at h1
    simp only [Bool.and_eq_true, decide_eq_true_eq]
    exact ⟨⟨⟨⟨h1.1.1, c3⟩, h1.1.2⟩, h1.2⟩, ⟨⟨c2, c4⟩, c5, c7⟩, c6⟩
theorem head_eq (ns : List Nd) (n : Nat) (a : Arr) : headB ns n a = (hasRowsB a && (shortsOf a.valid a.ends a.data && lackB (nd ns n).null a)) := by
  rw [Bool.eq_iff_iff]
  unfold headB hasRowsB shortsOf lackB
  simp only [Bool.and_eq_true, decide_eq_true_eq, Bool.or_eq_true]
  constructor
  · rintro ⟨⟨⟨⟨⟨⟨h1, h2⟩, h3⟩, h4⟩, h5⟩, h6⟩, h7⟩
    exact ⟨⟨h1, h2, h3⟩, ⟨⟨h4, h5⟩, h6⟩, h7⟩
  · rintro ⟨⟨h1, h2, h3⟩, ⟨⟨h4, h5⟩, h6⟩, h7⟩
    exact ⟨⟨⟨⟨⟨⟨h1, h2⟩, h3⟩, h4⟩, h5⟩, h6⟩, h7⟩
theorem ok_of {a : Arr} (h1 : hasRowsB a = true) (h2 : shortsOf a.valid a.ends a.data = true) : Ok a := by
  unfold hasRowsB at h1
  unfold shortsOf at h2
  simp only [Bool.and_eq_true, decide_eq_true_eq] at h1 h2
  exact ⟨h1.1, h1.2.1, h1.2.2, h2.1.1, h2.1.2, h2.2⟩
theorem lack_of {null : Bool} {a : Arr} (h : lackB null a = true) : a.valid.size = 0 ∨ rowsOf a ≤ 8 * a.valid.size := by
  unfold lackB at h
  simp only [Bool.and_eq_true, decide_eq_true_eq, Bool.or_eq_true] at h
  omega
/-- What is asked once the head may be. -/
def layB (ns : List Nd) (f n : Nat) (a : Arr) : Bool := if a.layout = 0 then plainB (mayF ns f) ns n a else if a.layout = 1 then isLeafB (nd ns n).kind && dictA' ns f n a else if a.layout = 2 then isLeafB (nd ns n).kind && runA' ns f n a else false
theorem leaf_eq {ns : List Nd} (hm : may ns = true) {n : Nat} (hn : n < ns.length) : Tree.isLeaf (nd ns n).kind = isLeafB (nd ns n).kind := by
  have := (may_of hm).kind n hn
  generalize (nd ns n).kind = k at *
  rcases (show k = 0 ∨ k = 1 ∨ k = 2 ∨ k = 3 ∨ k = 4 from by omega) with rfl | rfl | rfl | rfl | rfl <;> decide
theorem may_lay {ns : List Nd} (hm : may ns = true) {n : Nat} (hn : n < ns.length) (f : Nat) (a : Arr) : mayF ns (f + 1) n a = (headB ns n a && layB ns f n a) := by
  unfold mayF layB
  rw [leaf_eq hm hn]
  unfold dictA' runA'
  by_cases c0 : a.layout = 0
  · rw [if_pos c0, if_pos c0]
  · rw [if_neg c0, if_neg c0]
    by_cases c1 : a.layout = 1
    · rw [if_pos c1, if_pos c1]
      simp only [Bool.and_assoc]
    · rw [if_neg c1, if_neg c1]
      by_cases c2 : a.layout = 2
      · rw [if_pos c2, if_pos c2]
        simp only [Bool.and_assoc]
      · rw [if_neg c2, if_neg c2]
        simp
theorem short_box (v : World) (a : Arr) : (v.alloc (.cells #[.string a.valid, .string a.ends, .string a.data] 9)).cell? ⟨v.heap.size, 0, none⟩ = some (.string a.valid) ∧ (v.alloc (.cells #[.string a.valid, .string a.ends, .string a.data] 9)).cell? ⟨v.heap.size, 1, none⟩ = some (.string a.ends) ∧ (v.alloc (.cells #[.string a.valid, .string a.ends, .string a.data] 9)).cell? ⟨v.heap.size, 2, none⟩ = some (.string a.data) :=
  ⟨by rw [World.cell?, heap_alloc_new]; rfl, by rw [World.cell?, heap_alloc_new]; rfl, by rw [World.cell?, heap_alloc_new]; rfl⟩
end Go.Proofs.YtcpfhfdgfcilaaaGreatDoor.Arr
namespace Go.Proofs.YtcpfhfdgfcilaaaGreatDoor.Arr
open Go.ChangeShapes Go.WideShapes Go.ChangeAt Go.RowKit
open Tree Val

set_option maxRecDepth 20000 in
set_option maxHeartbeats 6400000 in
theorem may_no (ns : List Nd) (oT : Option Addr) (capT : Nat) (at' : Int) (a : Arr) (o : Option Addr) (cap : Nat) (w : World) (ht : IsT w oT ns) (hb : hasB ns at' = false) :
    Calls Tryz.prog 44 #[.agg #[.slice oT ns.length capT], .int .i64 at', a.val o cap] w fun r w' => r = .returned (.bool false) ∧ Below w.heap.size w w' := by
  obtain ⟨w1, e1, s1, c1, b1⟩ := boxed w (.slice oT ns.length capT) 24
  obtain ⟨w2, e2, x2, b2, z2⟩ := box7 w1 a o cap
  have B2 : Hid (Below w.heap.size w w2) := bel2 b1 b2
  have cT := cell_later b2 c1
  have HK : Hid (Calls Tryz.prog 69 #[.agg #[.slice oT ns.length capT], .int .i64 at'] w2 fun r w' => ∃ o c, r = .returned (.tuple #[.slice o (kidsA ns at').length c, .int .i64 (errA (hasB ns at'))]) ∧ w'.ownsRow w2.heap.size 3 1 (.slice o (kidsA ns at').length c) (kidsA ns at').length (ints (kidsA ns at')) ∧ Below w2.heap.size w2 w') := kidsP oT capT ns at' w2 (ht.later B2.out)
  rw [hb] at HK
  unfold Arr.val
  clear s1 c1 b1 b2 x2 z2 ht hb
  go_enter Tryz.func44, Tryz.ntmps44
  go_wp2_with fail
  refine HK.out.mono ?_
  rintro e w3 ⟨oK, cK, rfl, _, b3⟩
  have B3 : Hid (Below w.heap.size w w3) := bel2 B2.out b3
  clear b3 e1 e2 cT
  rw [show errA false = 500 from rfl]
  go_wp2_with fail
  go_quiet (fail)
  go_wp2
  go_ret
  exact ⟨rfl, bel2 B3.out (drewN_below _ _)⟩
set_option maxRecDepth 20000 in
set_option maxHeartbeats 6400000 in
theorem may_rows (B bytes f : Nat) (ns : List Nd) (oT : Option Addr) (capT n : Nat) (a : Arr) (o : Option Addr) (cap : Nat) (w : World) (ht : IsT w oT ns) (hn : n < ns.length) (hm : may ns = true) (hH : Hid (HoldsF B bytes w (f + 1) (a.cells o cap) a)) (h0 : hasRowsB a = false) :
    Calls Tryz.prog 44 #[.agg #[.slice oT ns.length capT], .int .i64 (n : Int), a.val o cap] w fun r w' => r = .returned (.bool false) ∧ Below w.heap.size w w' := by
  obtain ⟨w1, e1, s1, c1, b1⟩ := boxed w (.slice oT ns.length capT) 24
  obtain ⟨w2, e2, x2, b2, z2⟩ := box7 w1 a o cap
  obtain ⟨x, rfl, hl⟩ := ht.some (by omega)
  have hB : hasB ns (n : Int) = true := by unfold hasB; rw [hm, decide_eq_true (by omega)]; rfl
  have hKA : kidsA ns (n : Int) = kids ns n := by unfold kidsA; rw [if_pos hB]
  have B2 : Hid (Below w.heap.size w w2) := bel2 b1 b2
  have cT := cell_later b2 c1
  have HK : Hid (Calls Tryz.prog 69 #[.agg #[.slice (some x) ns.length capT], .int .i64 (n : Int)] w2 fun r w' => ∃ o c, r = .returned (.tuple #[.slice o (kids ns n).length c, .int .i64 0]) ∧ w'.ownsRow w2.heap.size 3 1 (.slice o (kids ns n).length c) (kids ns n).length (ints (kids ns n)) ∧ Below w2.heap.size w2 w') := by
    have := kidsP (some x) capT ns (n : Int) w2 (ht.later B2.out)
    rw [hB, hKA] at this
    exact this
  have HO : Hid (a.offset ≤ 9223372036854775807) := by have := (hH.out.ok').1.offset; simp [Lit.wf] at this; unfold Hid; omega
  have HH : Hid (∀ v, Calls Tryz.prog 70 #[a.val o cap] v fun r w' => r = .returned (.bool (hasRowsB a)) ∧ Below v.heap.size v w') := fun v => hasRows a o cap HO.out v
  have X2 : Hid (Bx w2 w1.heap.size a o cap) := x2
  have HT : Hid (IsT w (some x) ns) := ht
  have HLI : Hid (Lies w x ns) := hl
  have HCT : Hid (w2.cell? ⟨w.heap.size, 0, none⟩ = some (.slice (some x) ns.length capT)) := cT
  clear s1 c1 b1 b2 x2 z2 hB hKA ht hl
  rw [h0] at HH
  unfold Arr.val at HH ⊢
  go_enter Tryz.func44, Tryz.ntmps44
  go_wp2_with fail
  refine HK.out.mono ?_
  rintro e w3 ⟨oK, cK, rfl, hown, b3⟩
  have B3 : Hid (Below w2.heap.size w2 w3) := b3
  have HIK : Hid (IsI w3 w2.heap.size oK (kids ns n)) := own_ints hown
  have X3 : Hid (Bx w3 w1.heap.size a o cap) := X2.out.later b3
  have HC3 : Hid (w3.cell? ⟨w.heap.size, 0, none⟩ = some (.slice (some x) ns.length capT)) := cell_later b3 HCT.out
  have HL3 : Hid (Lies w3 x ns) := HLI.out.later (bel2 B2.out b3)
  clear b3 e1 e2 cT hown
  have hne := BW.some w3
  have C := X3.out.cells
  have d0 := C.d0
  have d1 := C.d1
  have d2 := C.d2
  have d3 := C.d3
  have d4 := C.d4
  have d5 := C.d5
  have d6 := C.d6
  clear C
  go_wp2_with fail
  refine region_in (C := fun w' => ∃ s : BW w3, w' = s.w) (by kernel_rfl) (by kernel_rfl) ⟨⟨w3.drew, (Below.refl _ _).drew⟩, rfl⟩ ?_
  repeat (go_big_quiet_step (first
    | (go_at_call 70; rename_i s; refine (HH.out s.w).mono ?_; rintro e wx ⟨rfl, hbx⟩; exact ⟨rfl, ⟨wx, bel2 s.ok hbx⟩, rfl⟩)))
  refine wpQuiet_nil ?_
  intro _ hw'
  obtain ⟨s, hw''⟩ := hw'
  subst hw''
  have HE : Hid (Below w.heap.size w s.w) := bel2 B2.out (bel2 B3.out s.ok)
  clear hne d0 d1 d2 d3 d4 d5 d6
  go_wp2
  go_ret
  exact ⟨rfl, HE.out⟩
end Go.Proofs.YtcpfhfdgfcilaaaGreatDoor.Arr
namespace Go.Proofs.YtcpfhfdgfcilaaaGreatDoor.Arr
open Go.ChangeShapes Go.WideShapes Go.ChangeAt Go.RowKit
open Tree Val

set_option maxRecDepth 20000 in
set_option maxHeartbeats 6400000 in
theorem may_lack (B bytes f : Nat) (ns : List Nd) (oT : Option Addr) (capT n : Nat) (a : Arr) (o : Option Addr) (cap : Nat) (w : World) (ht : IsT w oT ns) (hn : n < ns.length) (hm : may ns = true) (hH : Hid (HoldsF B bytes w (f + 1) (a.cells o cap) a)) (h0 : hasRowsB a = true) (h1 : shortsOf a.valid a.ends a.data = true) (h2 : lackB (nd ns n).null a = false) :
    Calls Tryz.prog 44 #[.agg #[.slice oT ns.length capT], .int .i64 (n : Int), a.val o cap] w fun r w' => r = .returned (.bool false) ∧ Below w.heap.size w w' := by
  obtain ⟨w1, e1, s1, c1, b1⟩ := boxed w (.slice oT ns.length capT) 24
  obtain ⟨w2, e2, x2, b2, z2⟩ := box7 w1 a o cap
  obtain ⟨x, rfl, hl⟩ := ht.some (by omega)
  have hB : hasB ns (n : Int) = true := by unfold hasB; rw [hm, decide_eq_true (by omega)]; rfl
  have hKA : kidsA ns (n : Int) = kids ns n := by unfold kidsA; rw [if_pos hB]
  have B2 : Hid (Below w.heap.size w w2) := bel2 b1 b2
  have cT := cell_later b2 c1
  have HK : Hid (Calls Tryz.prog 69 #[.agg #[.slice (some x) ns.length capT], .int .i64 (n : Int)] w2 fun r w' => ∃ o c, r = .returned (.tuple #[.slice o (kids ns n).length c, .int .i64 0]) ∧ w'.ownsRow w2.heap.size 3 1 (.slice o (kids ns n).length c) (kids ns n).length (ints (kids ns n)) ∧ Below w2.heap.size w2 w') := by
    have := kidsP (some x) capT ns (n : Int) w2 (ht.later B2.out)
    rw [hB, hKA] at this
    exact this
  have HO : Hid (a.offset ≤ 9223372036854775807) := by have := (hH.out.ok').1.offset; simp [Lit.wf] at this; unfold Hid; omega
  have HH : Hid (∀ v, Calls Tryz.prog 70 #[a.val o cap] v fun r w' => r = .returned (.bool (hasRowsB a)) ∧ Below v.heap.size v w') := fun v => hasRows a o cap HO.out v
  have X2 : Hid (Bx w2 w1.heap.size a o cap) := x2
  have HT : Hid (IsT w (some x) ns) := ht
  have HLI : Hid (Lies w x ns) := hl
  have HCT : Hid (w2.cell? ⟨w.heap.size, 0, none⟩ = some (.slice (some x) ns.length capT)) := cT
  clear s1 c1 b1 b2 x2 z2 hB hKA ht hl
  rw [h0] at HH
  have HSH : Hid (shortsOf a.valid a.ends a.data = true) := h1
  have HOK : Hid (Ok a) := ok_of h0 h1
  have HL : Hid (∀ v, Calls Tryz.prog 72 #[.agg #[.int .i64 (nd ns n).kind, .int .i64 (nd ns n).par, .bool (nd ns n).null], a.val o cap] v fun r w' => r = .returned (.bool (lackB (nd ns n).null a)) ∧ Below v.heap.size v w') := fun v => mayLack (nd ns n) a o cap HOK.out v
  rw [h2] at HL
  unfold Arr.val at HL
  unfold Arr.val at HH ⊢
  go_enter Tryz.func44, Tryz.ntmps44
  go_wp2_with fail
  refine HK.out.mono ?_
  rintro e w3 ⟨oK, cK, rfl, hown, b3⟩
  have B3 : Hid (Below w2.heap.size w2 w3) := b3
  have HIK : Hid (IsI w3 w2.heap.size oK (kids ns n)) := own_ints hown
  have X3 : Hid (Bx w3 w1.heap.size a o cap) := X2.out.later b3
  have HC3 : Hid (w3.cell? ⟨w.heap.size, 0, none⟩ = some (.slice (some x) ns.length capT)) := cell_later b3 HCT.out
  have HL3 : Hid (Lies w3 x ns) := HLI.out.later (bel2 B2.out b3)
  clear b3 e1 e2 cT hown
  have KLA : Hid (∀ W W', (fun W : World => W.cell? ⟨w.heap.size, 0, none⟩ = some (.slice (some x) ns.length capT) ∧ W.cell? ⟨w1.heap.size, 0, none⟩ = some (.int .i64 a.layout) ∧ W.cell? ⟨w1.heap.size, 1, none⟩ = some (.int .i64 a.offset) ∧ W.cell? ⟨w1.heap.size, 2, none⟩ = some (.int .i64 a.length) ∧ W.cell? ⟨w1.heap.size, 3, none⟩ = some (.string a.valid) ∧ W.cell? ⟨w1.heap.size, 4, none⟩ = some (.string a.ends) ∧ W.cell? ⟨w1.heap.size, 5, none⟩ = some (.string a.data) ∧ W.cell? ⟨w1.heap.size, 6, none⟩ = some (.slice o a.kids.length cap) ∧ W.cell? (x.add (n * 3)) = some (.int .i64 (nd ns n).kind) ∧ W.cell? { block := (x.add (n * 3)).block, off := (x.add (n * 3)).off + 1 } = some (.int .i64 (nd ns n).par) ∧ W.cell? { block := (x.add (n * 3)).block, off := (x.add (n * 3)).off + 2 } = some (.bool (nd ns n).null)) W → Below W.heap.size W W' → (fun W : World => W.cell? ⟨w.heap.size, 0, none⟩ = some (.slice (some x) ns.length capT) ∧ W.cell? ⟨w1.heap.size, 0, none⟩ = some (.int .i64 a.layout) ∧ W.cell? ⟨w1.heap.size, 1, none⟩ = some (.int .i64 a.offset) ∧ W.cell? ⟨w1.heap.size, 2, none⟩ = some (.int .i64 a.length) ∧ W.cell? ⟨w1.heap.size, 3, none⟩ = some (.string a.valid) ∧ W.cell? ⟨w1.heap.size, 4, none⟩ = some (.string a.ends) ∧ W.cell? ⟨w1.heap.size, 5, none⟩ = some (.string a.data) ∧ W.cell? ⟨w1.heap.size, 6, none⟩ = some (.slice o a.kids.length cap) ∧ W.cell? (x.add (n * 3)) = some (.int .i64 (nd ns n).kind) ∧ W.cell? { block := (x.add (n * 3)).block, off := (x.add (n * 3)).off + 1 } = some (.int .i64 (nd ns n).par) ∧ W.cell? { block := (x.add (n * 3)).block, off := (x.add (n * 3)).off + 2 } = some (.bool (nd ns n).null)) W') := by
    intro W W'
    rintro ⟨p0, p1, p2, p3, p4, p5, p6, p7, p8, p9, p10⟩ hb
    exact ⟨cell_later hb p0, cell_later hb p1, cell_later hb p2, cell_later hb p3, cell_later hb p4, cell_later hb p5, cell_later hb p6, cell_later hb p7, cell_later hb p8, cell_later hb p9, cell_later hb p10⟩
  have K3 : Hid ((fun W : World => W.cell? ⟨w.heap.size, 0, none⟩ = some (.slice (some x) ns.length capT) ∧ W.cell? ⟨w1.heap.size, 0, none⟩ = some (.int .i64 a.layout) ∧ W.cell? ⟨w1.heap.size, 1, none⟩ = some (.int .i64 a.offset) ∧ W.cell? ⟨w1.heap.size, 2, none⟩ = some (.int .i64 a.length) ∧ W.cell? ⟨w1.heap.size, 3, none⟩ = some (.string a.valid) ∧ W.cell? ⟨w1.heap.size, 4, none⟩ = some (.string a.ends) ∧ W.cell? ⟨w1.heap.size, 5, none⟩ = some (.string a.data) ∧ W.cell? ⟨w1.heap.size, 6, none⟩ = some (.slice o a.kids.length cap) ∧ W.cell? (x.add (n * 3)) = some (.int .i64 (nd ns n).kind) ∧ W.cell? { block := (x.add (n * 3)).block, off := (x.add (n * 3)).off + 1 } = some (.int .i64 (nd ns n).par) ∧ W.cell? { block := (x.add (n * 3)).block, off := (x.add (n * 3)).off + 2 } = some (.bool (nd ns n).null)) w3.drew) := KLA.out w3 _ ⟨HC3.out, X3.out.c0, X3.out.c1, X3.out.c2, X3.out.c3, X3.out.c4, X3.out.c5, X3.out.c6, HL3.out.kind' n hn, HL3.out.par' n hn, HL3.out.null' n hn⟩ (drewN_below w3 1)
  have j0 : (0 : Int) ≤ (n : Int) := Int.natCast_nonneg _
  have j1 : (n : Int) < (ns.length : Int) := by omega
  clear hH HK h0 h1 h2
  go_wp2_with fail
  first
  | (go_region_held3 (fun W : World => W.cell? ⟨w.heap.size, 0, none⟩ = some (.slice (some x) ns.length capT) ∧ W.cell? ⟨w1.heap.size, 0, none⟩ = some (.int .i64 a.layout) ∧ W.cell? ⟨w1.heap.size, 1, none⟩ = some (.int .i64 a.offset) ∧ W.cell? ⟨w1.heap.size, 2, none⟩ = some (.int .i64 a.length) ∧ W.cell? ⟨w1.heap.size, 3, none⟩ = some (.string a.valid) ∧ W.cell? ⟨w1.heap.size, 4, none⟩ = some (.string a.ends) ∧ W.cell? ⟨w1.heap.size, 5, none⟩ = some (.string a.data) ∧ W.cell? ⟨w1.heap.size, 6, none⟩ = some (.slice o a.kids.length cap) ∧ W.cell? (x.add (n * 3)) = some (.int .i64 (nd ns n).kind) ∧ W.cell? { block := (x.add (n * 3)).block, off := (x.add (n * 3)).off + 1 } = some (.int .i64 (nd ns n).par) ∧ W.cell? { block := (x.add (n * 3)).block, off := (x.add (n * 3)).off + 2 } = some (.bool (nd ns n).null)) (first | with_reducible exact K3.out | with_reducible exact K4.out | with_reducible exact KA.out | with_reducible exact K5.out)
    (first
      | (go_at_call 70; refine (HH.out _).mono ?_; rintro e w4 ⟨rfl, b4⟩; have BB4 := KLA.out _ _ K3.out b4; have K4 : Hid _ := BB4; have B4 : Hid (Below w3.heap.size w3 w4) := bel2 (drewN_below w3 1) b4; have ba : Below w4.heap.size w4 (w4.alloc (.cells #[.string a.valid, .string a.ends, .string a.data] 9)) := (Below.refl _ _).alloc (Nat.le_refl _) _; have BA : Hid _ := bel2 B4.out ba; have KA : Hid _ := KLA.out _ _ K4.out ba; clear b4 BB4 ba)
      | (go_at_call 71; refine (areShort _ a.valid a.ends a.data _ (short_box w4 a).1 (short_box w4 a).2.1 (short_box w4 a).2.2).mono ?_; rintro e wx ⟨rfl, rfl⟩; rw [HSH.out])
      | (go_at_call 72; refine (HL.out _).mono ?_; rintro e w5 ⟨rfl, b5⟩; have K5 : Hid _ := KLA.out _ _ KA.out b5; have B5 : Hid (Below w3.heap.size w3 w5) := bel2 BA.out b5; clear b5)))
  | fail
  all_goals
    clear K3 K4 KLA KA K5
    go_wp2
    go_ret
    exact ⟨rfl, bel2 B2.out (bel2 B3.out B5.out)⟩
set_option maxRecDepth 20000 in
set_option maxHeartbeats 6400000 in
theorem may_yes (B bytes f : Nat) (ih : Hid (MayC B bytes f)) (ns : List Nd) (oT : Option Addr) (capT n : Nat) (a : Arr) (o : Option Addr) (cap : Nat) (w : World) (ht : IsT w oT ns) (hn : n < ns.length) (hm : may ns = true) (hH : Hid (HoldsF B bytes w (f + 1) (a.cells o cap) a)) (h0 : hasRowsB a = true) (h1 : shortsOf a.valid a.ends a.data = true) (h2 : lackB (nd ns n).null a = true) :
    Calls Tryz.prog 44 #[.agg #[.slice oT ns.length capT], .int .i64 (n : Int), a.val o cap] w fun r w' => r = .returned (.bool (layB ns f n a)) ∧ Below w.heap.size w w' := by
  obtain ⟨w1, e1, s1, c1, b1⟩ := boxed w (.slice oT ns.length capT) 24
  obtain ⟨w2, e2, x2, b2, z2⟩ := box7 w1 a o cap
  obtain ⟨x, rfl, hl⟩ := ht.some (by omega)
  have hB : hasB ns (n : Int) = true := by unfold hasB; rw [hm, decide_eq_true (by omega)]; rfl
  have hKA : kidsA ns (n : Int) = kids ns n := by unfold kidsA; rw [if_pos hB]
  have B2 : Hid (Below w.heap.size w w2) := bel2 b1 b2
  have cT := cell_later b2 c1
  have HK : Hid (Calls Tryz.prog 69 #[.agg #[.slice (some x) ns.length capT], .int .i64 (n : Int)] w2 fun r w' => ∃ o c, r = .returned (.tuple #[.slice o (kids ns n).length c, .int .i64 0]) ∧ w'.ownsRow w2.heap.size 3 1 (.slice o (kids ns n).length c) (kids ns n).length (ints (kids ns n)) ∧ Below w2.heap.size w2 w') := by
    have := kidsP (some x) capT ns (n : Int) w2 (ht.later B2.out)
    rw [hB, hKA] at this
    exact this
  have HO : Hid (a.offset ≤ 9223372036854775807) := by have := (hH.out.ok').1.offset; simp [Lit.wf] at this; unfold Hid; omega
  have HH : Hid (∀ v, Calls Tryz.prog 70 #[a.val o cap] v fun r w' => r = .returned (.bool (hasRowsB a)) ∧ Below v.heap.size v w') := fun v => hasRows a o cap HO.out v
  have X2 : Hid (Bx w2 w1.heap.size a o cap) := x2
  have HT : Hid (IsT w (some x) ns) := ht
  have HLI : Hid (Lies w x ns) := hl
  have HCT : Hid (w2.cell? ⟨w.heap.size, 0, none⟩ = some (.slice (some x) ns.length capT)) := cT
  clear s1 c1 b1 b2 x2 z2 hB hKA ht hl
  rw [h0] at HH
  have HSH : Hid (shortsOf a.valid a.ends a.data = true) := h1
  have HOK : Hid (Ok a) := ok_of h0 h1
  have HL : Hid (∀ v, Calls Tryz.prog 72 #[.agg #[.int .i64 (nd ns n).kind, .int .i64 (nd ns n).par, .bool (nd ns n).null], a.val o cap] v fun r w' => r = .returned (.bool (lackB (nd ns n).null a)) ∧ Below v.heap.size v w') := fun v => mayLack (nd ns n) a o cap HOK.out v
  have HLK : Hid (a.valid.size = 0 ∨ rowsOf a ≤ 8 * a.valid.size) := lack_of h2
  rw [h2] at HL
  unfold Arr.val at HL
  have HLY : Hid (layB ns f n a = if a.layout = 0 then plainB (mayF ns f) ns n a else if a.layout = 1 then isLeafB (nd ns n).kind && dictA' ns f n a else if a.layout = 2 then isLeafB (nd ns n).kind && runA' ns f n a else false) := rfl
  generalize layB ns f n a = R at *
  unfold Arr.val at HH ⊢
  go_enter Tryz.func44, Tryz.ntmps44
  go_wp2_with fail
  refine HK.out.mono ?_
  rintro e w3 ⟨oK, cK, rfl, hown, b3⟩
  have B3 : Hid (Below w2.heap.size w2 w3) := b3
  have HIK : Hid (IsI w3 w2.heap.size oK (kids ns n)) := own_ints hown
  have X3 : Hid (Bx w3 w1.heap.size a o cap) := X2.out.later b3
  have HC3 : Hid (w3.cell? ⟨w.heap.size, 0, none⟩ = some (.slice (some x) ns.length capT)) := cell_later b3 HCT.out
  have HL3 : Hid (Lies w3 x ns) := HLI.out.later (bel2 B2.out b3)
  clear b3 e1 e2 cT hown
  have KLA : Hid (∀ W W', (fun W : World => W.cell? ⟨w.heap.size, 0, none⟩ = some (.slice (some x) ns.length capT) ∧ W.cell? ⟨w1.heap.size, 0, none⟩ = some (.int .i64 a.layout) ∧ W.cell? ⟨w1.heap.size, 1, none⟩ = some (.int .i64 a.offset) ∧ W.cell? ⟨w1.heap.size, 2, none⟩ = some (.int .i64 a.length) ∧ W.cell? ⟨w1.heap.size, 3, none⟩ = some (.string a.valid) ∧ W.cell? ⟨w1.heap.size, 4, none⟩ = some (.string a.ends) ∧ W.cell? ⟨w1.heap.size, 5, none⟩ = some (.string a.data) ∧ W.cell? ⟨w1.heap.size, 6, none⟩ = some (.slice o a.kids.length cap) ∧ W.cell? (x.add (n * 3)) = some (.int .i64 (nd ns n).kind) ∧ W.cell? { block := (x.add (n * 3)).block, off := (x.add (n * 3)).off + 1 } = some (.int .i64 (nd ns n).par) ∧ W.cell? { block := (x.add (n * 3)).block, off := (x.add (n * 3)).off + 2 } = some (.bool (nd ns n).null)) W → Below W.heap.size W W' → (fun W : World => W.cell? ⟨w.heap.size, 0, none⟩ = some (.slice (some x) ns.length capT) ∧ W.cell? ⟨w1.heap.size, 0, none⟩ = some (.int .i64 a.layout) ∧ W.cell? ⟨w1.heap.size, 1, none⟩ = some (.int .i64 a.offset) ∧ W.cell? ⟨w1.heap.size, 2, none⟩ = some (.int .i64 a.length) ∧ W.cell? ⟨w1.heap.size, 3, none⟩ = some (.string a.valid) ∧ W.cell? ⟨w1.heap.size, 4, none⟩ = some (.string a.ends) ∧ W.cell? ⟨w1.heap.size, 5, none⟩ = some (.string a.data) ∧ W.cell? ⟨w1.heap.size, 6, none⟩ = some (.slice o a.kids.length cap) ∧ W.cell? (x.add (n * 3)) = some (.int .i64 (nd ns n).kind) ∧ W.cell? { block := (x.add (n * 3)).block, off := (x.add (n * 3)).off + 1 } = some (.int .i64 (nd ns n).par) ∧ W.cell? { block := (x.add (n * 3)).block, off := (x.add (n * 3)).off + 2 } = some (.bool (nd ns n).null)) W') := by
    intro W W'
    rintro ⟨p0, p1, p2, p3, p4, p5, p6, p7, p8, p9, p10⟩ hb
    exact ⟨cell_later hb p0, cell_later hb p1, cell_later hb p2, cell_later hb p3, cell_later hb p4, cell_later hb p5, cell_later hb p6, cell_later hb p7, cell_later hb p8, cell_later hb p9, cell_later hb p10⟩
  have K3 : Hid ((fun W : World => W.cell? ⟨w.heap.size, 0, none⟩ = some (.slice (some x) ns.length capT) ∧ W.cell? ⟨w1.heap.size, 0, none⟩ = some (.int .i64 a.layout) ∧ W.cell? ⟨w1.heap.size, 1, none⟩ = some (.int .i64 a.offset) ∧ W.cell? ⟨w1.heap.size, 2, none⟩ = some (.int .i64 a.length) ∧ W.cell? ⟨w1.heap.size, 3, none⟩ = some (.string a.valid) ∧ W.cell? ⟨w1.heap.size, 4, none⟩ = some (.string a.ends) ∧ W.cell? ⟨w1.heap.size, 5, none⟩ = some (.string a.data) ∧ W.cell? ⟨w1.heap.size, 6, none⟩ = some (.slice o a.kids.length cap) ∧ W.cell? (x.add (n * 3)) = some (.int .i64 (nd ns n).kind) ∧ W.cell? { block := (x.add (n * 3)).block, off := (x.add (n * 3)).off + 1 } = some (.int .i64 (nd ns n).par) ∧ W.cell? { block := (x.add (n * 3)).block, off := (x.add (n * 3)).off + 2 } = some (.bool (nd ns n).null)) w3.drew) := KLA.out w3 _ ⟨HC3.out, X3.out.c0, X3.out.c1, X3.out.c2, X3.out.c3, X3.out.c4, X3.out.c5, X3.out.c6, HL3.out.kind' n hn, HL3.out.par' n hn, HL3.out.null' n hn⟩ (drewN_below w3 1)
  have j0 : (0 : Int) ≤ (n : Int) := Int.natCast_nonneg _
  have j1 : (n : Int) < (ns.length : Int) := by omega
  have HM : Hid (may ns = true) := hm
  clear HK h0 h1 h2 hm
  go_wp2_with fail
  first
  | (go_region_held3 (fun W : World => W.cell? ⟨w.heap.size, 0, none⟩ = some (.slice (some x) ns.length capT) ∧ W.cell? ⟨w1.heap.size, 0, none⟩ = some (.int .i64 a.layout) ∧ W.cell? ⟨w1.heap.size, 1, none⟩ = some (.int .i64 a.offset) ∧ W.cell? ⟨w1.heap.size, 2, none⟩ = some (.int .i64 a.length) ∧ W.cell? ⟨w1.heap.size, 3, none⟩ = some (.string a.valid) ∧ W.cell? ⟨w1.heap.size, 4, none⟩ = some (.string a.ends) ∧ W.cell? ⟨w1.heap.size, 5, none⟩ = some (.string a.data) ∧ W.cell? ⟨w1.heap.size, 6, none⟩ = some (.slice o a.kids.length cap) ∧ W.cell? (x.add (n * 3)) = some (.int .i64 (nd ns n).kind) ∧ W.cell? { block := (x.add (n * 3)).block, off := (x.add (n * 3)).off + 1 } = some (.int .i64 (nd ns n).par) ∧ W.cell? { block := (x.add (n * 3)).block, off := (x.add (n * 3)).off + 2 } = some (.bool (nd ns n).null)) (first | with_reducible exact K3.out | with_reducible exact K4.out | with_reducible exact KA.out | with_reducible exact K5.out)
    (first
      | (go_at_call 70; refine (HH.out _).mono ?_; rintro e w4 ⟨rfl, b4⟩; have BB4 := KLA.out _ _ K3.out b4; have K4 : Hid _ := BB4; have B4 : Hid (Below w3.heap.size w3 w4) := bel2 (drewN_below w3 1) b4; have ba : Below w4.heap.size w4 (w4.alloc (.cells #[.string a.valid, .string a.ends, .string a.data] 9)) := (Below.refl _ _).alloc (Nat.le_refl _) _; have BA : Hid _ := bel2 B4.out ba; have KA : Hid _ := KLA.out _ _ K4.out ba; clear b4 BB4 ba)
      | (go_at_call 71; refine (areShort _ a.valid a.ends a.data _ (short_box w4 a).1 (short_box w4 a).2.1 (short_box w4 a).2.2).mono ?_; rintro e wx ⟨rfl, rfl⟩; rw [HSH.out])
      | (go_at_call 72; refine (HL.out _).mono ?_; rintro e w5 ⟨rfl, b5⟩; have K5 : Hid _ := KLA.out _ _ KA.out b5; have B5 : Hid (Below w3.heap.size w3 w5) := bel2 BA.out b5; clear b5)))
  | fail
  all_goals
    have BW5 : Hid (Below w.heap.size w w5) := bel2 B2.out (bel2 B3.out B5.out)
    have X5 := X3.out.later B5.out
    have hl5 := HL3.out.later B5.out
    have d0 := X5.c0
    have d1 := X5.c1
    have d2 := X5.c2
    have d3 := X5.c3
    have d4 := X5.c4
    have d5 := X5.c5
    have d6 := X5.c6
    have cT := cell_later B5.out HC3.out
    have n0 := hl5.kind' n hn
    have n1 := hl5.par' n hn
    have n2 := hl5.null' n hn
    have HT5 : Hid (IsT w5 (some x) ns) := HT.out.later BW5.out
    have HH5 : Hid (HoldsF B bytes w5 (f + 1) (a.cells o cap) a) := hH.out.later BW5.out
    have X55 : Hid (Bx w5 w1.heap.size a o cap) := X5
    have HC5 : Hid (w5.cell? ⟨w.heap.size, 0, none⟩ = some (.slice (some x) ns.length capT)) := cT
    clear K3 K4 KLA KA K5 X5 hl5 BA HSH HL HH hH
    by_cases c0 : a.layout = 0
    · have HN : Hid (R = plainB (mayF ns f) ns n a) := by unfold Hid; rw [HLY.out, if_pos c0]
      have HP : Hid (Calls Tryz.prog 73 #[.agg #[.slice (some x) ns.length capT], .int .i64 (n : Int), .slice oK (kids ns n).length cK, a.val o cap] w5 fun r w' => r = .returned (.bool (plainB (mayF ns f) ns n a)) ∧ Below w5.heap.size w5 w') := isPlain B bytes f ih ns (some x) capT n hn HM.out oK cK w2.heap.size a o cap HOK.out w5 HT5.out (HIK.out.later B5.out) HH5.out
      unfold Arr.val at HP
      rw [c0] at d0 HP
      generalize (kids ns n).length = nk at *
      clear HLY
      go_wp2_with fail
      refine HP.out.mono ?_
      rintro e w6 ⟨rfl, b6⟩
      go_wp2
      go_ret
      exact ⟨ret_bool HN.out.symm, bel2 BW5.out b6⟩
    have c0' : (a.layout == 0) = false := by rw [beq_eq_false_iff_ne]; exact c0
    by_cases c1 : a.layout = 1
    · have HN : Hid (R = (isLeafB (nd ns n).kind && dictA' ns f n a)) := by unfold Hid; rw [HLY.out, if_neg c0, if_pos c1]
      have HLf : Hid (Calls Tryz.prog 74 #[.agg #[.int .i64 (nd ns n).kind, .int .i64 (nd ns n).par, .bool (nd ns n).null]] w5 fun r w' => r = .returned (.bool (isLeafB (nd ns n).kind)) ∧ Below w5.heap.size w5 w') := isLeaf (nd ns n) w5
      have HP : Hid (∀ v, Below w5.heap.size w5 v → Calls Tryz.prog 75 #[.agg #[.slice (some x) ns.length capT], .int .i64 (n : Int), a.val o cap] v fun r w' => r = .returned (.bool (dictA' ns f n a)) ∧ Below v.heap.size v w') := fun v hv => isDict B bytes f ih.out ns (some x) capT n hn HM.out a o cap HOK.out HLK.out v (HT5.out.later hv) (HH5.out.later hv)
      unfold Arr.val at HP
      rw [c1] at d0 HP
      have HC1 : Hid (a.layout = 1) := c1
      clear HLY c0
      generalize dictA' ns f n a = DA at *
      cases hlf : isLeafB (nd ns n).kind
      · rw [hlf] at HLf HN
        have HN2 : Hid (R = false) := HN.out
        clear hlf
        go_wp2_with fail
        refine HLf.out.mono ?_
        rintro e w6 ⟨rfl, b6⟩
        go_wp2
        go_ret
        exact ⟨ret_bool HN2.out.symm, bel2 BW5.out b6⟩
      · rw [hlf] at HLf HN
        have HN2 : Hid (R = DA) := HN.out
        clear hlf
        go_wp2_with fail
        refine HLf.out.mono ?_
        rintro e w6 ⟨rfl, b6⟩
        have B6 : Hid (Below w5.heap.size w5 w6) := b6
        have X6 := X55.out.later b6
        have cT6 := cell_later b6 HC5.out
        clear d0 d1 d2 d3 d4 d5 d6 b6 cT n0 n1 n2
        have d0 := X6.c0
        have d1 := X6.c1
        have d2 := X6.c2
        have d3 := X6.c3
        have d4 := X6.c4
        have d5 := X6.c5
        have d6 := X6.c6
        rw [HC1.out] at d0
        clear X6
        go_wp2_with fail
        refine (HP.out w6 B6.out).mono ?_
        rintro e w7 ⟨rfl, b7⟩
        go_wp2
        go_ret
        exact ⟨ret_bool HN2.out.symm, bel2 BW5.out (bel2 B6.out b7)⟩
    have c1' : (a.layout == 1) = false := by rw [beq_eq_false_iff_ne]; exact c1
    by_cases c2 : a.layout = 2
    · have HN : Hid (R = (isLeafB (nd ns n).kind && runA' ns f n a)) := by unfold Hid; rw [HLY.out, if_neg c0, if_neg c1, if_pos c2]
      have HLf : Hid (Calls Tryz.prog 74 #[.agg #[.int .i64 (nd ns n).kind, .int .i64 (nd ns n).par, .bool (nd ns n).null]] w5 fun r w' => r = .returned (.bool (isLeafB (nd ns n).kind)) ∧ Below w5.heap.size w5 w') := isLeaf (nd ns n) w5
      have HP : Hid (∀ v, Below w5.heap.size w5 v → Calls Tryz.prog 76 #[.agg #[.slice (some x) ns.length capT], .int .i64 (n : Int), a.val o cap] v fun r w' => r = .returned (.bool (runA' ns f n a)) ∧ Below v.heap.size v w') := fun v hv => isRun B bytes f ih.out ns (some x) capT n hn HM.out a o cap HOK.out v (HT5.out.later hv) (HH5.out.later hv)
      unfold Arr.val at HP
      rw [c2] at d0 HP
      have HC1 : Hid (a.layout = 2) := c2
      clear HLY c0 c1
      generalize runA' ns f n a = DA at *
      cases hlf : isLeafB (nd ns n).kind
      · rw [hlf] at HLf HN
        have HN2 : Hid (R = false) := HN.out
        clear hlf
        go_wp2_with fail
        refine HLf.out.mono ?_
        rintro e w6 ⟨rfl, b6⟩
        go_wp2
        go_ret
        exact ⟨ret_bool HN2.out.symm, bel2 BW5.out b6⟩
      · rw [hlf] at HLf HN
        have HN2 : Hid (R = DA) := HN.out
        clear hlf
        go_wp2_with fail
        refine HLf.out.mono ?_
        rintro e w6 ⟨rfl, b6⟩
        have B6 : Hid (Below w5.heap.size w5 w6) := b6
        have X6 := X55.out.later b6
        have cT6 := cell_later b6 HC5.out
        clear d0 d1 d2 d3 d4 d5 d6 b6 cT n0 n1 n2
        have d0 := X6.c0
        have d1 := X6.c1
        have d2 := X6.c2
        have d3 := X6.c3
        have d4 := X6.c4
        have d5 := X6.c5
        have d6 := X6.c6
        rw [HC1.out] at d0
        clear X6
        go_wp2_with fail
        refine (HP.out w6 B6.out).mono ?_
        rintro e w7 ⟨rfl, b7⟩
        go_wp2
        go_ret
        exact ⟨ret_bool HN2.out.symm, bel2 BW5.out (bel2 B6.out b7)⟩
    have c2' : (a.layout == 2) = false := by rw [beq_eq_false_iff_ne]; exact c2
    have HN : Hid (R = false) := by unfold Hid; rw [HLY.out, if_neg c0, if_neg c1, if_neg c2]
    clear HLY
    go_wp2
    go_ret
    exact ⟨ret_bool HN.out.symm, BW5.out⟩
end Go.Proofs.YtcpfhfdgfcilaaaGreatDoor.Arr
