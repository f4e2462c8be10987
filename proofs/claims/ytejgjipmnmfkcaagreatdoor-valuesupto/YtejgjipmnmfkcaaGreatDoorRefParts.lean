/-
  A value's kind and parts, as the document's own answer tells them: contracts.
-/
import Derived.Test.YtejgjipmnmfkcaaGreatDoorPlaces
import Derived.Test.YtejgjipmnmfkcaaGreatDoorWhole
import Derived.Test.YtejgjipmnmfkcaaGreatDoorMake
import Derived.Test.YtejgjipmnmfkcaaGreatDoorPartsC
import Derived.Test.YtejgjipmnmfkcaaGreatDoorRefDig
import Derived.Test.YtejgjipmnmfkcaaGreatDoorRefEnd
import Derived.Test.YtejgjipmnmfkcaaGreatDoorRefEndZ
import Derived.Deep.CutBlock
namespace Go.Proofs.YtejgjipmnmfkcaaGreatDoor.Val
open Go.ChangeShapes Go.WideShapes Go.ChangeAt Go.RowKit
open Tree (own_slice own_mono)
open Texts (cellsT cellsT_snoc)

theorem own_later {w w' : World} {B n : Nat} {e : TypeId} {k : Nat} {v : Value} {xs : List Value} (h : w.ownsRow B e k v n xs) (hb : Below w.heap.size w w') : w'.ownsRow B e k v n xs := by
  have hlt := h.lt
  refine ⟨h.1, ?_⟩
  rcases h.2 with h | ⟨g, cap, cur, h0, h1, h2, h3⟩
  · exact .inl h
  · subst h0
    exact .inr ⟨g, cap, cur, rfl, h1, (hb.block g (hlt g rfl).2).trans h2, h3⟩
def mkL (l : List (List UInt8)) : List ByteArray := l.map fun l => ⟨l.toArray⟩
theorem step_ends {s : ByteArray} {q q' : Nat} (h : val 3 ((bl s).drop q) = some (q' - q)) (h1 : q < q') : endZ 4 s q = ((q' : Nat) : Int) := by
  have := val_up 3 4 (by omega) _ _ h
  rw [endZ, endO_some this]
  omega
set_option maxRecDepth 20000 in
set_option maxHeartbeats 1600000 in
theorem partsNest91 (s : ByteArray) (hs : s.size ≤ 65536) (hv : Hid (isVal (bl s))) (h0 : 0 < s.size) (hb0 : s[0] = 91) (w : World) :
    Calls Tryz.prog 7 #[.string s] w fun r w' => ∃ o cap, r = .returned (.tuple #[.int .i64 3, .slice o (mkL (itemsZ (val 3) 93 s 1)).length cap, .int .i64 0]) ∧ w'.ownsRow w.heap.size 9 1 (.slice o (mkL (itemsZ (val 3) 93 s 1)).length cap) (mkL (itemsZ (val 3) 93 s 1)).length (cellsT (mkL (itemsZ (val 3) 93 s 1))) ∧ Below w.heap.size w w' := by
  have hb : ((s[0].toNat : Nat) : Int) = 91 := by rw [hb0]; rfl
  have HE4 : Hid (endZ 4 s 0 = ((s.size : Nat) : Int)) := ((isVal_iff s).1 hv.out).2
  have HW0 : Hid (Whole (val 3) 93 s 1) := by
    have := whole_of hv.out h0 (by rw [hb0]; decide)
    rw [hb0] at this
    exact this
  have h2 : 1 < s.size := HW0.out.2
  obtain ⟨i9, hi, hz0, hz1, hz2⟩ := info_parts info9
  clear hb0
  generalize hps : mkL (itemsZ (val 3) 93 s 1) = ps
  have HP0 : Hid (ps = [] ++ mkL (itemsZ (val 3) 93 s 1)) := hps.symm
  clear hps
  go_enter Tryz.func7, Tryz.ntmps7
  go_wp2_with fail
  refine (endR 4 (by omega) s 0 hs (by omega) w).mono ?_
  rintro e w1 ⟨rfl, b1⟩
  rw [HE4.out]
  have hq : (((s.size : Nat) : Int) != ((s.size : Nat) : Int)) = false := by rw [bne_eq_false_iff_eq]
  have HB1 : Hid (Below w.heap.size w w1) := b1
  clear b1
  go_wp2_with fail
  go_loopw [5, 6] (fun v t wr => ∃ (q : Nat) (l : List ByteArray) (o : Option Addr) (cap : Nat), l.length + 1 ≤ q ∧ q ≤ s.size - 1 ∧ t = .int .i64 (q : Int) ∧ v = .slice o l.length cap ∧ wr.ownsRow w.heap.size 9 1 (.slice o l.length cap) l.length (cellsT l) ∧ Whole (val 3) 93 s q ∧ ps = l ++ mkL (itemsZ (val 3) 93 s q) ∧ Below w.heap.size w wr) (fun _ t _ => s.size - (intOf t).toNat)
  case atStart => exact ⟨1, [], none, 0, by simp, by omega, rfl, rfl, World.ownsRow_nil _ _ _ _, HW0.out, HP0.out, HB1.out⟩
  case round =>
    obtain ⟨q, l, o, cap, hlq, hqs, rfl, rfl, hown, hwh, hp, hbl⟩ := hrel
    have HOWN : Hid (wr.ownsRow w.heap.size 9 1 (.slice o l.length cap) l.length (cellsT l)) := hown
    have HWH : Hid (Whole (val 3) 93 s q) := hwh
    have HP : Hid (ps = l ++ mkL (itemsZ (val 3) 93 s q)) := hp
    have HB : Hid (Below w.heap.size w wr) := hbl
    clear hown hwh hp hbl HP0 HW0 HB1 hq
    by_cases hlt : q < s.size - 1
    · obtain ⟨q', a1, a2, a3, a4, a5⟩ := HWH.out.step (fair_val 3) hlt
      have HZ : Hid (endZ 4 s q = ((q' : Nat) : Int)) := step_ends a3 a1
      have HW' : Hid (Whole (val 3) 93 s q') := a4
      have HP' : Hid (ps = (l ++ [s.extract q q']) ++ mkL (itemsZ (val 3) 93 s q')) := by
        unfold Hid
        rw [HP.out, a5]
        simp [mkL, mk_bl]
      clear a3 a4 a5 HP HWH
      go_wp2_with fail
      refine (endR 4 (by omega) s q hs (by omega) wr).mono ?_
      rintro e w5 ⟨rfl, b5⟩
      rw [HZ.out]
      have hown5 := own_later HOWN.out b5
      have hbl5 : Below w.heap.size w w5 := bel2 HB.out b5
      have i1 : (q : Int) ≤ (q' : Int) := by omega
      have i2 : (q' : Int) ≤ (s.size : Int) := by omega
      clear HOWN b5 HZ HB
      go_wp2_with (at_builtin; refine wpList_append_own _ rfl (.tmp 51) (.tmp 56) 22 rfl w.heap.size 9 i9 (.string ⟨#[]⟩) 1 16 Tryz.underlying22 hi hz0 hz1 hz2 rfl (by decide) _ l.length _ rfl (hown5.alloc _) ⟨w5.heap.size, 0, none⟩ 1 1 [.string (s.extract q q')] rfl rfl ?c1 ?c2 ?c3 ?c4 ?c5 ?_)
      case c1 =>
        intro j u hj
        match j, hj with
        | 0, hj => simp at hj; subst hj; simp [Addr.add]
      case c2 => intro u hu; simp at hu; subst hu; rfl
      case c3 => unfold maxLen; omega
      case c4 => omega
      case c5 => have := hbl5.size; simp; omega
      intro u6 w6 hown6 hgrow _
      generalize s.extract q q' = t at *
      have hb6 : Below w.heap.size w w6 := (hbl5.alloc hbl5.size _).grown hgrow (by have := hbl5.size; simp; omega) (fun j hj => (hown5.lt j hj).1)
      have hown6' : w6.ownsRow w.heap.size 9 1 u6 (l ++ [t]).length (cellsT (l ++ [t])) := by
        rw [cellsT_snoc, List.length_append]
        exact hown6
      have hl' : (l ++ [t]).length = l.length + 1 := by simp
      have HL' : Hid ((l ++ [t]).length = l.length + 1) := hl'
      obtain ⟨o6, cap6, rfl⟩ := own_slice hown6'
      have H6 : Hid (w6.ownsRow w.heap.size 9 1 (.slice o6 (l ++ [t]).length cap6) (l ++ [t]).length (cellsT (l ++ [t])) ∧ Below w.heap.size w w6) := ⟨hown6', hb6⟩
      clear hown6 hown6' hgrow hb6 hown5 hbl5 hl'
      generalize l ++ [t] = l' at *
      go_wp2
      go_roundw
      case rel => exact ⟨q', l', o6, cap6, by have := HL'.out; omega, a2, rfl, rfl, H6.out.1, HW'.out, HP'.out, H6.out.2⟩
      case measure => simp [intOf]; omega
    · obtain ⟨a1, a2⟩ := HWH.out.last (fair_val 3) hlt
      have HE : Hid (ps = l) := by unfold Hid; rw [HP.out, a2]; simp [mkL]
      obtain rfl := HE.out
      clear HWH HP a2
      go_wp2
      go_ret3
      exact ⟨o, cap, rfl, HOWN.out, HB.out⟩
set_option maxRecDepth 20000 in
set_option maxHeartbeats 1600000 in
theorem partsNest123 (s : ByteArray) (hs : s.size ≤ 65536) (hv : Hid (isVal (bl s))) (h0 : 0 < s.size) (hb0 : s[0] = 123) (w : World) :
    Calls Tryz.prog 7 #[.string s] w fun r w' => ∃ o cap, r = .returned (.tuple #[.int .i64 4, .slice o (mkL (itemsZ (val 3) 125 s 1)).length cap, .int .i64 0]) ∧ w'.ownsRow w.heap.size 9 1 (.slice o (mkL (itemsZ (val 3) 125 s 1)).length cap) (mkL (itemsZ (val 3) 125 s 1)).length (cellsT (mkL (itemsZ (val 3) 125 s 1))) ∧ Below w.heap.size w w' := by
  have hb : ((s[0].toNat : Nat) : Int) = 123 := by rw [hb0]; rfl
  have HE4 : Hid (endZ 4 s 0 = ((s.size : Nat) : Int)) := ((isVal_iff s).1 hv.out).2
  have HW0 : Hid (Whole (val 3) 125 s 1) := by
    have := whole_of hv.out h0 (by rw [hb0]; decide)
    rw [hb0] at this
    exact this
  have h2 : 1 < s.size := HW0.out.2
  obtain ⟨i9, hi, hz0, hz1, hz2⟩ := info_parts info9
  clear hb0
  generalize hps : mkL (itemsZ (val 3) 125 s 1) = ps
  have HP0 : Hid (ps = [] ++ mkL (itemsZ (val 3) 125 s 1)) := hps.symm
  clear hps
  go_enter Tryz.func7, Tryz.ntmps7
  go_wp2_with fail
  refine (endR 4 (by omega) s 0 hs (by omega) w).mono ?_
  rintro e w1 ⟨rfl, b1⟩
  rw [HE4.out]
  have hq : (((s.size : Nat) : Int) != ((s.size : Nat) : Int)) = false := by rw [bne_eq_false_iff_eq]
  have HB1 : Hid (Below w.heap.size w w1) := b1
  clear b1
  go_wp2_with fail
  go_loopw [5, 6] (fun v t wr => ∃ (q : Nat) (l : List ByteArray) (o : Option Addr) (cap : Nat), l.length + 1 ≤ q ∧ q ≤ s.size - 1 ∧ t = .int .i64 (q : Int) ∧ v = .slice o l.length cap ∧ wr.ownsRow w.heap.size 9 1 (.slice o l.length cap) l.length (cellsT l) ∧ Whole (val 3) 125 s q ∧ ps = l ++ mkL (itemsZ (val 3) 125 s q) ∧ Below w.heap.size w wr) (fun _ t _ => s.size - (intOf t).toNat)
  case atStart => exact ⟨1, [], none, 0, by simp, by omega, rfl, rfl, World.ownsRow_nil _ _ _ _, HW0.out, HP0.out, HB1.out⟩
  case round =>
    obtain ⟨q, l, o, cap, hlq, hqs, rfl, rfl, hown, hwh, hp, hbl⟩ := hrel
    have HOWN : Hid (wr.ownsRow w.heap.size 9 1 (.slice o l.length cap) l.length (cellsT l)) := hown
    have HWH : Hid (Whole (val 3) 125 s q) := hwh
    have HP : Hid (ps = l ++ mkL (itemsZ (val 3) 125 s q)) := hp
    have HB : Hid (Below w.heap.size w wr) := hbl
    clear hown hwh hp hbl HP0 HW0 HB1 hq
    by_cases hlt : q < s.size - 1
    · obtain ⟨q', a1, a2, a3, a4, a5⟩ := HWH.out.step (fair_val 3) hlt
      have HZ : Hid (endZ 4 s q = ((q' : Nat) : Int)) := step_ends a3 a1
      have HW' : Hid (Whole (val 3) 125 s q') := a4
      have HP' : Hid (ps = (l ++ [s.extract q q']) ++ mkL (itemsZ (val 3) 125 s q')) := by
        unfold Hid
        rw [HP.out, a5]
        simp [mkL, mk_bl]
      clear a3 a4 a5 HP HWH
      go_wp2_with fail
      refine (endR 4 (by omega) s q hs (by omega) wr).mono ?_
      rintro e w5 ⟨rfl, b5⟩
      rw [HZ.out]
      have hown5 := own_later HOWN.out b5
      have hbl5 : Below w.heap.size w w5 := bel2 HB.out b5
      have i1 : (q : Int) ≤ (q' : Int) := by omega
      have i2 : (q' : Int) ≤ (s.size : Int) := by omega
      clear HOWN b5 HZ HB
      go_wp2_with (at_builtin; refine wpList_append_own _ rfl (.tmp 51) (.tmp 56) 22 rfl w.heap.size 9 i9 (.string ⟨#[]⟩) 1 16 Tryz.underlying22 hi hz0 hz1 hz2 rfl (by decide) _ l.length _ rfl (hown5.alloc _) ⟨w5.heap.size, 0, none⟩ 1 1 [.string (s.extract q q')] rfl rfl ?c1 ?c2 ?c3 ?c4 ?c5 ?_)
      case c1 =>
        intro j u hj
        match j, hj with
        | 0, hj => simp at hj; subst hj; simp [Addr.add]
      case c2 => intro u hu; simp at hu; subst hu; rfl
      case c3 => unfold maxLen; omega
      case c4 => omega
      case c5 => have := hbl5.size; simp; omega
      intro u6 w6 hown6 hgrow _
      generalize s.extract q q' = t at *
      have hb6 : Below w.heap.size w w6 := (hbl5.alloc hbl5.size _).grown hgrow (by have := hbl5.size; simp; omega) (fun j hj => (hown5.lt j hj).1)
      have hown6' : w6.ownsRow w.heap.size 9 1 u6 (l ++ [t]).length (cellsT (l ++ [t])) := by
        rw [cellsT_snoc, List.length_append]
        exact hown6
      have hl' : (l ++ [t]).length = l.length + 1 := by simp
      have HL' : Hid ((l ++ [t]).length = l.length + 1) := hl'
      obtain ⟨o6, cap6, rfl⟩ := own_slice hown6'
      have H6 : Hid (w6.ownsRow w.heap.size 9 1 (.slice o6 (l ++ [t]).length cap6) (l ++ [t]).length (cellsT (l ++ [t])) ∧ Below w.heap.size w w6) := ⟨hown6', hb6⟩
      clear hown6 hown6' hgrow hb6 hown5 hbl5 hl'
      generalize l ++ [t] = l' at *
      go_wp2
      go_roundw
      case rel => exact ⟨q', l', o6, cap6, by have := HL'.out; omega, a2, rfl, rfl, H6.out.1, HW'.out, HP'.out, H6.out.2⟩
      case measure => simp [intOf]; omega
    · obtain ⟨a1, a2⟩ := HWH.out.last (fair_val 3) hlt
      have HE : Hid (ps = l) := by unfold Hid; rw [HP.out, a2]; simp [mkL]
      obtain rfl := HE.out
      clear HWH HP a2
      go_wp2
      go_ret3
      exact ⟨o, cap, rfl, HOWN.out, HB.out⟩
theorem one_text (w : World) (s : ByteArray) {B : Nat} (h : B ≤ w.heap.size) : (w.alloc (.cells #[.string s] 9)).ownsRow B 9 1 (.slice (some ⟨w.heap.size, 0, none⟩) 1 1) 1 (cellsT [s]) := own_mono (own_one w s) h
theorem below_drew1 {w w' : World} (h : Below w.heap.size w w') : Below w.heap.size w w'.drew := bel2 h (drewN_below _ 1)
theorem int_two {s : ByteArray} (hv : isVal (bl s)) (h0 : 0 < s.size) (hb : s[0] = 105) : 2 ≤ s.size := by
  have h4 := ((isVal_iff s).1 hv).2
  by_cases c : 2 ≤ s.size
  · exact c
  · rw [endZ_int_far h0 hb (fun j h1 h2 _ => by omega)] at h4
    omega
set_option maxRecDepth 20000 in
set_option maxHeartbeats 3200000 in
theorem partsR (s : ByteArray) (k : Int) (ps : List ByteArray) (E : Int) (ha : Hid (TellA s k ps E)) (w : World) :
    Calls Tryz.prog 7 #[.string s] w fun r w' => ∃ o cap, r = .returned (.tuple #[.int .i64 k, .slice o ps.length cap, .int .i64 E]) ∧ w'.ownsRow w.heap.size 9 1 (.slice o ps.length cap) ps.length (cellsT ps) ∧ Below w.heap.size w w' := by
  by_cases hs : s.size ≤ 65536
  · by_cases hv : isVal (bl s)
    · have HV : Hid (isVal (bl s)) := hv
      have h0 := isVal_pos hv
      have HE4 : Hid (endZ 4 s 0 = ((s.size : Nat) : Int)) := ((isVal_iff s).1 hv).2
      have HT : ∀ k' ps', partsS s = some (k', ps') → k = k' ∧ ps = ps' ∧ E = 0 := by
        intro k' ps' h
        rcases ha.out with ⟨a1, a2⟩ | ⟨a1, _⟩
        · rw [a1] at h
          injection h with h
          injection h with h h3
          exact ⟨h, h3, a2⟩
        · rw [a1] at h
          cases h
      have hq : (((s.size : Nat) : Int) != ((s.size : Nat) : Int)) = false := by rw [bne_eq_false_iff_eq]
      rcases isVal_bytes hv with c | c | c | c | c | c | c
      · obtain ⟨rfl, rfl, rfl⟩ := HT _ _ (partsS_n hv c)
        have hb : ((s[0].toNat : Nat) : Int) = 110 := by rw [c]; rfl
        clear c HT hv ha
        go_enter Tryz.func7, Tryz.ntmps7
        go_wp2_with fail
        refine (endR 4 (by omega) s 0 hs (by omega) w).mono ?_
        rintro e w1 ⟨rfl, b1⟩
        rw [HE4.out]
        go_wp2
        go_ret3
        exact ⟨none, 0, rfl, World.ownsRow_nil _ _ _ _, b1⟩
      · obtain ⟨rfl, rfl, rfl⟩ := HT _ _ (partsS_i hv c)
        have h2 := int_two hv h0 c
        have hb : ((s[0].toNat : Nat) : Int) = 105 := by rw [c]; rfl
        clear c HT hv ha
        go_enter Tryz.func7, Tryz.ntmps7
        go_wp2_with fail
        refine (endR 4 (by omega) s 0 hs (by omega) w).mono ?_
        rintro e w1 ⟨rfl, b1⟩
        rw [HE4.out]
        have HB1 : Hid (Below w.heap.size w w1) := b1
        clear b1
        have i1 : (1 : Int) ≤ ((s.size : Nat) : Int) - 1 := by omega
        have i2 : ((s.size : Nat) : Int) - 1 ≤ ((s.size : Nat) : Int) := by omega
        go_wp2_with fail
        go_region
        all_goals
          go_wp2
          go_ret3
          exact ⟨_, 1, rfl, (one_text w1 _ HB1.out.size).drew, below_drew1 (HB1.out.alloc HB1.out.size _)⟩
      · obtain ⟨rfl, rfl, rfl⟩ := HT _ _ (partsS_w hv (.inl c))
        have hb : ((s[0].toNat : Nat) : Int) = 116 := by rw [c]; rfl
        clear c HT hv ha
        go_enter Tryz.func7, Tryz.ntmps7
        go_wp2_with fail
        refine (endR 4 (by omega) s 0 hs (by omega) w).mono ?_
        rintro e w1 ⟨rfl, b1⟩
        rw [HE4.out]
        have HB1 : Hid (Below w.heap.size w w1) := b1
        clear b1
        go_wp2
        go_ret3
        exact ⟨_, 1, rfl, one_text w1 s HB1.out.size, HB1.out.alloc HB1.out.size _⟩
      · obtain ⟨rfl, rfl, rfl⟩ := HT _ _ (partsS_w hv (.inr c))
        have hb : ((s[0].toNat : Nat) : Int) = 102 := by rw [c]; rfl
        clear c HT hv ha
        go_enter Tryz.func7, Tryz.ntmps7
        go_wp2_with fail
        refine (endR 4 (by omega) s 0 hs (by omega) w).mono ?_
        rintro e w1 ⟨rfl, b1⟩
        rw [HE4.out]
        have HB1 : Hid (Below w.heap.size w w1) := b1
        clear b1
        go_wp2
        go_ret3
        exact ⟨_, 1, rfl, one_text w1 s HB1.out.size, HB1.out.alloc HB1.out.size _⟩
      · obtain ⟨j, hj, h21⟩ := first_colon hv c
        obtain ⟨rfl, rfl, rfl⟩ := HT _ _ (partsS_s hv c hj)
        have HU : Hid (∀ z, UptoA s 0 58 z → z = (j : Int)) := by
          rintro z (⟨j', rfl, hj', _⟩ | ⟨_, hfar⟩)
          · have h1 := firstAt_up hj' h0 (by rw [c]; decide)
            have a := hj.2.2.2
            have b := h1.2.2.2
            rcases Nat.lt_trichotomy j j' with h | h | h
            · exact absurd hj.2.2.1 (b j hj.1 h)
            · rw [h]
            · exact absurd h1.2.2.1 (a j' h1.1 h)
          · exact absurd hj.2.2.1 (hfar j (by omega) hj.2.1 (by omega))
        have hj1 := hj.1
        have hj2 := hj.2.1
        have hb : ((s[0].toNat : Nat) : Int) = 115 := by rw [c]; rfl
        clear c HT hv ha hj
        go_enter Tryz.func7, Tryz.ntmps7
        go_wp2_with fail
        refine (endR 4 (by omega) s 0 hs (by omega) w).mono ?_
        rintro e w1 ⟨rfl, b1⟩
        rw [HE4.out]
        have HB1 : Hid (Below w.heap.size w w1) := b1
        clear b1
        have i1 : (j : Int) + 1 ≤ ((s.size : Nat) : Int) := by omega
        have i0 : (0 : Int) ≤ (j : Int) + 1 := by omega
        have x1 : IntKind.i64.wrap ((j : Int) + 1) = (j : Int) + 1 := by rw [IntKind.wrap_i64]; omega
        go_wp2_with fail
        go_region_with (go_at_call 31; refine (uptoR s 0 58 hs (by omega) _).mono ?_; rintro e w3 ⟨z, rfl, hu, hw3⟩; obtain rfl := HU.out z hu; subst w3; clear hu)
        all_goals
          go_wp2
          go_ret3
          exact ⟨_, 1, rfl, (one_text w1 _ HB1.out.size).drew, below_drew1 (HB1.out.alloc HB1.out.size _)⟩
      · obtain ⟨rfl, rfl, rfl⟩ := HT _ _ (partsS_l hv c)
        exact partsNest91 s hs HV h0 c w
      · obtain ⟨rfl, rfl, rfl⟩ := HT _ _ (partsS_o hv c)
        exact partsNest123 s hs HV h0 c w
    · obtain ⟨rfl, rfl, rfl⟩ : k = 0 ∧ ps = [] ∧ E = 700 := by
        rcases ha.out with ⟨a1, a2⟩ | ⟨_, a1, a2, a3⟩
        · rw [partsS_none hv] at a1
          cases a1
        · exact ⟨a1, a2, a3⟩
      have hne : endZ 4 s 0 ≠ ((s.size : Nat) : Int) := fun c => hv ((isVal_iff s).2 ⟨hs, c⟩)
      clear hv ha
      go_enter Tryz.func7, Tryz.ntmps7
      go_wp2_with fail
      refine (endR 4 (by omega) s 0 hs (by omega) w).mono ?_
      rintro e w1 ⟨rfl, b1⟩
      have hq : (endZ 4 s 0 != ((s.size : Nat) : Int)) = true := by rw [bne_iff_ne]; exact hne
      generalize endZ 4 s 0 = z at *
      go_wp2
      go_ret3
      exact ⟨none, 0, rfl, World.ownsRow_nil _ _ _ _, b1⟩
  · obtain ⟨rfl, rfl, rfl⟩ : k = 0 ∧ ps = [] ∧ E = 700 := by
      rcases ha.out with ⟨a1, a2⟩ | ⟨_, a1, a2, a3⟩
      · rw [partsS_none (fun c => hs ((isVal_iff s).1 c).1)] at a1
        cases a1
      · exact ⟨a1, a2, a3⟩
    clear ha
    go_enter Tryz.func7, Tryz.ntmps7
    go_wp2
    go_ret3
    exact ⟨none, 0, rfl, World.ownsRow_nil _ _ _ _, Below.refl _ _⟩
end Go.Proofs.YtejgjipmnmfkcaaGreatDoor.Val
