/-
  Several texts in one: A value's kind and parts, as the document's own answer tells them: contracts. · Whether a value may be of a node of a type, as the document's own answer tells it: contracts. · What a reader has of a place: short, span: contracts.
-/
import Derived.Test.YtcpfhfdgfcilaaaGreatDoorB03
import Derived.Test.YtcpfhfdgfcilaaaGreatDoorB13
import Derived.Test.YtcpfhfdgfcilaaaGreatDoorB16
import Derived.Deep.CutBlock
import Derived.Test.YtcpfhfdgfcilaaaGreatDoorB01
import Derived.Test.YtcpfhfdgfcilaaaGreatDoorB02
import Derived.Test.YtcpfhfdgfcilaaaGreatDoorB09
import Derived.Test.YtcpfhfdgfcilaaaGreatDoorB12
import Derived.Deep.RegionWith
import Derived.Test.YtcpfhfdgfcilaaaGreatDoorB05
import Derived.Deep.QuietTactic
import Derived.BigQuiet
namespace Go.Proofs.YtcpfhfdgfcilaaaGreatDoor.Val
open Go.ChangeShapes Go.WideShapes Go.ChangeAt Go.RowKit
open Tree (own_slice own_mono)
open Texts (cellsT cellsT_snoc)

theorem own_later {w w' : World} {B n : Nat} {e : TypeId} {k : Nat} {v : Value} {xs : List Value} (h : w.ownsRow B e k v n xs) (hb : Below w.heap.size w w') : w'.ownsRow B e k v n xs := by
  have hlt := h.lt
  refine ⟨h.1, ?_⟩
  rcases h.2 with h | ⟨g, cap, cur, h0, h1, h2, h3⟩
  · exact .inl h
  · subst h0
    exact .inr ⟨g, cap, cur, rfl, h1, (hb.block g (hlt g rfl).2).trans h2, h3⟩
def mkL (l : List (List UInt8)) : List ByteArray := l.map fun l => ⟨l.toArray⟩
theorem step_ends {s : ByteArray} {q q' : Nat} (h : val 3 ((bl s).drop q) = some (q' - q)) (h1 : q < q') : endZ 4 s q = ((q' : Nat) : Int) := by
  have := val_up 3 4 (by omega) _ _ h
  rw [endZ, endO_some this]
  omega
set_option maxRecDepth 20000 in
set_option maxHeartbeats 1600000 in
theorem partsNest91 (s : ByteArray) (hs : s.size ≤ 65536) (hv : Hid (isVal (bl s))) (h0 : 0 < s.size) (hb0 : s[0] = 91) (w : World) :
    Calls Tryz.prog 111 #[.string s] w fun r w' => ∃ o cap, r = .returned (.tuple #[.int .i64 3, .slice o (mkL (itemsZ (val 3) 93 s 1)).length cap, .int .i64 0]) ∧ w'.ownsRow w.heap.size 9 1 (.slice o (mkL (itemsZ (val 3) 93 s 1)).length cap) (mkL (itemsZ (val 3) 93 s 1)).length (cellsT (mkL (itemsZ (val 3) 93 s 1))) ∧ Below w.heap.size w w' := by
  have hb : ((s[0].toNat : Nat) : Int) = 91 := by rw [hb0]; rfl
  have HE4 : Hid (endZ 4 s 0 = ((s.size : Nat) : Int)) := ((isVal_iff s).1 hv.out).2
  have HW0 : Hid (Whole (val 3) 93 s 1) := by
    have := whole_of hv.out h0 (by rw [hb0]; decide)
    rw [hb0] at this
    exact this
  have h2 : 1 < s.size := HW0.out.2
  obtain ⟨i9, hi, hz0, hz1, hz2⟩ := info_parts info9
  clear hb0
  generalize hps : mkL (itemsZ (val 3) 93 s 1) = ps
  have HP0 : Hid (ps = [] ++ mkL (itemsZ (val 3) 93 s 1)) := hps.symm
  clear hps
  go_enter Tryz.func111, Tryz.ntmps111
  go_wp2_with fail
  refine (endR 4 (by omega) s 0 hs (by omega) w).mono ?_
  rintro e w1 ⟨rfl, b1⟩
  rw [HE4.out]
  have hq : (((s.size : Nat) : Int) != ((s.size : Nat) : Int)) = false := by rw [bne_eq_false_iff_eq]
  have HB1 : Hid (Below w.heap.size w w1) := b1
  clear b1
  go_wp2_with fail
  go_loopw [5, 6] (fun v t wr => ∃ (q : Nat) (l : List ByteArray) (o : Option Addr) (cap : Nat), l.length + 1 ≤ q ∧ q ≤ s.size - 1 ∧ t = .int .i64 (q : Int) ∧ v = .slice o l.length cap ∧ wr.ownsRow w.heap.size 9 1 (.slice o l.length cap) l.length (cellsT l) ∧ Whole (val 3) 93 s q ∧ ps = l ++ mkL (itemsZ (val 3) 93 s q) ∧ Below w.heap.size w wr) (fun _ t _ => s.size - (intOf t).toNat)
  case atStart => exact ⟨1, [], none, 0, by simp, by omega, rfl, rfl, World.ownsRow_nil _ _ _ _, HW0.out, HP0.out, HB1.out⟩
  case round =>
    obtain ⟨q, l, o, cap, hlq, hqs, rfl, rfl, hown, hwh, hp, hbl⟩ := hrel
    have HOWN : Hid (wr.ownsRow w.heap.size 9 1 (.slice o l.length cap) l.length (cellsT l)) := hown
    have HWH : Hid (Whole (val 3) 93 s q) := hwh
    have HP : Hid (ps = l ++ mkL (itemsZ (val 3) 93 s q)) := hp
    have HB : Hid (Below w.heap.size w wr) := hbl
    clear hown hwh hp hbl HP0 HW0 HB1 hq
    by_cases hlt : q < s.size - 1
    · obtain ⟨q', a1, a2, a3, a4, a5⟩ := HWH.out.step (fair_val 3) hlt
      have HZ : Hid (endZ 4 s q = ((q' : Nat) : Int)) := step_ends a3 a1
      have HW' : Hid (Whole (val 3) 93 s q') := a4
      have HP' : Hid (ps = (l ++ [s.extract q q']) ++ mkL (itemsZ (val 3) 93 s q')) := by
        unfold Hid
        rw [HP.out, a5]
        simp [mkL, mk_bl]
      clear a3 a4 a5 HP HWH
      go_wp2_with fail
      refine (endR 4 (by omega) s q hs (by omega) wr).mono ?_
      rintro e w5 ⟨rfl, b5⟩
      rw [HZ.out]
      have hown5 := own_later HOWN.out b5
      have hbl5 : Below w.heap.size w w5 := bel2 HB.out b5
      have i1 : (q : Int) ≤ (q' : Int) := by omega
      have i2 : (q' : Int) ≤ (s.size : Int) := by omega
      clear HOWN b5 HZ HB
      go_wp2_with (at_builtin; refine wpList_append_own _ rfl (.tmp 51) (.tmp 56) 29 rfl w.heap.size 9 i9 (.string ⟨#[]⟩) 1 16 Tryz.underlying29 hi hz0 hz1 hz2 rfl (by decide) _ l.length _ rfl (hown5.alloc _) ⟨w5.heap.size, 0, none⟩ 1 1 [.string (s.extract q q')] rfl rfl ?c1 ?c2 ?c3 ?c4 ?c5 ?_)
      case c1 =>
        intro j u hj
        match j, hj with
        | 0, hj => simp at hj; subst hj; simp [Addr.add]
      case c2 => intro u hu; simp at hu; subst hu; rfl
      case c3 => unfold maxLen; omega
      case c4 => omega
      case c5 => have := hbl5.size; simp; omega
      intro u6 w6 hown6 hgrow _
      generalize s.extract q q' = t at *
      have hb6 : Below w.heap.size w w6 := (hbl5.alloc hbl5.size _).grown hgrow (by have := hbl5.size; simp; omega) (fun j hj => (hown5.lt j hj).1)
      have hown6' : w6.ownsRow w.heap.size 9 1 u6 (l ++ [t]).length (cellsT (l ++ [t])) := by
        rw [cellsT_snoc, List.length_append]
        exact hown6
      have hl' : (l ++ [t]).length = l.length + 1 := by simp
      have HL' : Hid ((l ++ [t]).length = l.length + 1) := hl'
      obtain ⟨o6, cap6, rfl⟩ := own_slice hown6'
      have H6 : Hid (w6.ownsRow w.heap.size 9 1 (.slice o6 (l ++ [t]).length cap6) (l ++ [t]).length (cellsT (l ++ [t])) ∧ Below w.heap.size w w6) := ⟨hown6', hb6⟩
      clear hown6 hown6' hgrow hb6 hown5 hbl5 hl'
      generalize l ++ [t] = l' at *
      go_wp2
      go_roundw
      case rel => exact ⟨q', l', o6, cap6, by have := HL'.out; omega, a2, rfl, rfl, H6.out.1, HW'.out, HP'.out, H6.out.2⟩
      case measure => simp [intOf]; omega
    · obtain ⟨a1, a2⟩ := HWH.out.last (fair_val 3) hlt
      have HE : Hid (ps = l) := by unfold Hid; rw [HP.out, a2]; simp [mkL]
      obtain rfl := HE.out
      clear HWH HP a2
      go_wp2
      go_ret3
      exact ⟨o, cap, rfl, HOWN.out, HB.out⟩
set_option maxRecDepth 20000 in
set_option maxHeartbeats 1600000 in
theorem partsNest123 (s : ByteArray) (hs : s.size ≤ 65536) (hv : Hid (isVal (bl s))) (h0 : 0 < s.size) (hb0 : s[0] = 123) (w : World) :
    Calls Tryz.prog 111 #[.string s] w fun r w' => ∃ o cap, r = .returned (.tuple #[.int .i64 4, .slice o (mkL (itemsZ (val 3) 125 s 1)).length cap, .int .i64 0]) ∧ w'.ownsRow w.heap.size 9 1 (.slice o (mkL (itemsZ (val 3) 125 s 1)).length cap) (mkL (itemsZ (val 3) 125 s 1)).length (cellsT (mkL (itemsZ (val 3) 125 s 1))) ∧ Below w.heap.size w w' := by
  have hb : ((s[0].toNat : Nat) : Int) = 123 := by rw [hb0]; rfl
  have HE4 : Hid (endZ 4 s 0 = ((s.size : Nat) : Int)) := ((isVal_iff s).1 hv.out).2
  have HW0 : Hid (Whole (val 3) 125 s 1) := by
    have := whole_of hv.out h0 (by rw [hb0]; decide)
    rw [hb0] at this
    exact this
  have h2 : 1 < s.size := HW0.out.2
  obtain ⟨i9, hi, hz0, hz1, hz2⟩ := info_parts info9
  clear hb0
  generalize hps : mkL (itemsZ (val 3) 125 s 1) = ps
  have HP0 : Hid (ps = [] ++ mkL (itemsZ (val 3) 125 s 1)) := hps.symm
  clear hps
  go_enter Tryz.func111, Tryz.ntmps111
  go_wp2_with fail
  refine (endR 4 (by omega) s 0 hs (by omega) w).mono ?_
  rintro e w1 ⟨rfl, b1⟩
  rw [HE4.out]
  have hq : (((s.size : Nat) : Int) != ((s.size : Nat) : Int)) = false := by rw [bne_eq_false_iff_eq]
  have HB1 : Hid (Below w.heap.size w w1) := b1
  clear b1
  go_wp2_with fail
  go_loopw [5, 6] (fun v t wr => ∃ (q : Nat) (l : List ByteArray) (o : Option Addr) (cap : Nat), l.length + 1 ≤ q ∧ q ≤ s.size - 1 ∧ t = .int .i64 (q : Int) ∧ v = .slice o l.length cap ∧ wr.ownsRow w.heap.size 9 1 (.slice o l.length cap) l.length (cellsT l) ∧ Whole (val 3) 125 s q ∧ ps = l ++ mkL (itemsZ (val 3) 125 s q) ∧ Below w.heap.size w wr) (fun _ t _ => s.size - (intOf t).toNat)
  case atStart => exact ⟨1, [], none, 0, by simp, by omega, rfl, rfl, World.ownsRow_nil _ _ _ _, HW0.out, HP0.out, HB1.out⟩
  case round =>
    obtain ⟨q, l, o, cap, hlq, hqs, rfl, rfl, hown, hwh, hp, hbl⟩ := hrel
    have HOWN : Hid (wr.ownsRow w.heap.size 9 1 (.slice o l.length cap) l.length (cellsT l)) := hown
    have HWH : Hid (Whole (val 3) 125 s q) := hwh
    have HP : Hid (ps = l ++ mkL (itemsZ (val 3) 125 s q)) := hp
    have HB : Hid (Below w.heap.size w wr) := hbl
    clear hown hwh hp hbl HP0 HW0 HB1 hq
    by_cases hlt : q < s.size - 1
    · obtain ⟨q', a1, a2, a3, a4, a5⟩ := HWH.out.step (fair_val 3) hlt
      have HZ : Hid (endZ 4 s q = ((q' : Nat) : Int)) := step_ends a3 a1
      have HW' : Hid (Whole (val 3) 125 s q') := a4
      have HP' : Hid (ps = (l ++ [s.extract q q']) ++ mkL (itemsZ (val 3) 125 s q')) := by
        unfold Hid
        rw [HP.out, a5]
        simp [mkL, mk_bl]
      clear a3 a4 a5 HP HWH
      go_wp2_with fail
      refine (endR 4 (by omega) s q hs (by omega) wr).mono ?_
      rintro e w5 ⟨rfl, b5⟩
      rw [HZ.out]
      have hown5 := own_later HOWN.out b5
      have hbl5 : Below w.heap.size w w5 := bel2 HB.out b5
      have i1 : (q : Int) ≤ (q' : Int) := by omega
      have i2 : (q' : Int) ≤ (s.size : Int) := by omega
      clear HOWN b5 HZ HB
      go_wp2_with (at_builtin; refine wpList_append_own _ rfl (.tmp 51) (.tmp 56) 29 rfl w.heap.size 9 i9 (.string ⟨#[]⟩) 1 16 Tryz.underlying29 hi hz0 hz1 hz2 rfl (by decide) _ l.length _ rfl (hown5.alloc _) ⟨w5.heap.size, 0, none⟩ 1 1 [.string (s.extract q q')] rfl rfl ?c1 ?c2 ?c3 ?c4 ?c5 ?_)
      case c1 =>
        intro j u hj
        match j, hj with
        | 0, hj => simp at hj; subst hj; simp [Addr.add]
      case c2 => intro u hu; simp at hu; subst hu; rfl
      case c3 => unfold maxLen; omega
      case c4 => omega
      case c5 => have := hbl5.size; simp; omega
      intro u6 w6 hown6 hgrow _
      generalize s.extract q q' = t at *
      have hb6 : Below w.heap.size w w6 := (hbl5.alloc hbl5.size _).grown hgrow (by have := hbl5.size; simp; omega) (fun j hj => (hown5.lt j hj).1)
      have hown6' : w6.ownsRow w.heap.size 9 1 u6 (l ++ [t]).length (cellsT (l ++ [t])) := by
        rw [cellsT_snoc, List.length_append]
        exact hown6
      have hl' : (l ++ [t]).length = l.length + 1 := by simp
      have HL' : Hid ((l ++ [t]).length = l.length + 1) := hl'
      obtain ⟨o6, cap6, rfl⟩ := own_slice hown6'
      have H6 : Hid (w6.ownsRow w.heap.size 9 1 (.slice o6 (l ++ [t]).length cap6) (l ++ [t]).length (cellsT (l ++ [t])) ∧ Below w.heap.size w w6) := ⟨hown6', hb6⟩
      clear hown6 hown6' hgrow hb6 hown5 hbl5 hl'
      generalize l ++ [t] = l' at *
      go_wp2
      go_roundw
      case rel => exact ⟨q', l', o6, cap6, by have := HL'.out; omega, a2, rfl, rfl, H6.out.1, HW'.out, HP'.out, H6.out.2⟩
      case measure => simp [intOf]; omega
    · obtain ⟨a1, a2⟩ := HWH.out.last (fair_val 3) hlt
      have HE : Hid (ps = l) := by unfold Hid; rw [HP.out, a2]; simp [mkL]
      obtain rfl := HE.out
      clear HWH HP a2
      go_wp2
      go_ret3
      exact ⟨o, cap, rfl, HOWN.out, HB.out⟩
theorem one_text (w : World) (s : ByteArray) {B : Nat} (h : B ≤ w.heap.size) : (w.alloc (.cells #[.string s] 9)).ownsRow B 9 1 (.slice (some ⟨w.heap.size, 0, none⟩) 1 1) 1 (cellsT [s]) := own_mono (own_one w s) h
theorem below_drew1 {w w' : World} (h : Below w.heap.size w w') : Below w.heap.size w w'.drew := bel2 h (drewN_below _ 1)
theorem int_two {s : ByteArray} (hv : isVal (bl s)) (h0 : 0 < s.size) (hb : s[0] = 105) : 2 ≤ s.size := by
  have h4 := ((isVal_iff s).1 hv).2
  by_cases c : 2 ≤ s.size
  · exact c
  · rw [endZ_int_far h0 hb (fun j h1 h2 _ => by omega)] at h4
    omega
set_option maxRecDepth 20000 in
set_option maxHeartbeats 3200000 in
theorem partsR (s : ByteArray) (k : Int) (ps : List ByteArray) (E : Int) (ha : Hid (TellA s k ps E)) (w : World) :
    Calls Tryz.prog 111 #[.string s] w fun r w' => ∃ o cap, r = .returned (.tuple #[.int .i64 k, .slice o ps.length cap, .int .i64 E]) ∧ w'.ownsRow w.heap.size 9 1 (.slice o ps.length cap) ps.length (cellsT ps) ∧ Below w.heap.size w w' := by
  by_cases hs : s.size ≤ 65536
  · by_cases hv : isVal (bl s)
    · have HV : Hid (isVal (bl s)) := hv
      have h0 := isVal_pos hv
      have HE4 : Hid (endZ 4 s 0 = ((s.size : Nat) : Int)) := ((isVal_iff s).1 hv).2
      have HT : ∀ k' ps', partsS s = some (k', ps') → k = k' ∧ ps = ps' ∧ E = 0 := by
        intro k' ps' h
        rcases ha.out with ⟨a1, a2⟩ | ⟨a1, _⟩
        · rw [a1] at h
          injection h with h
          injection h with h h3
          exact ⟨h, h3, a2⟩
        · rw [a1] at h
          cases h
      have hq : (((s.size : Nat) : Int) != ((s.size : Nat) : Int)) = false := by rw [bne_eq_false_iff_eq]
      rcases isVal_bytes hv with c | c | c | c | c | c | c
      · obtain ⟨rfl, rfl, rfl⟩ := HT _ _ (partsS_n hv c)
        have hb : ((s[0].toNat : Nat) : Int) = 110 := by rw [c]; rfl
        clear c HT hv ha
        go_enter Tryz.func111, Tryz.ntmps111
        go_wp2_with fail
        refine (endR 4 (by omega) s 0 hs (by omega) w).mono ?_
        rintro e w1 ⟨rfl, b1⟩
        rw [HE4.out]
        go_wp2
        go_ret3
        exact ⟨none, 0, rfl, World.ownsRow_nil _ _ _ _, b1⟩
      · obtain ⟨rfl, rfl, rfl⟩ := HT _ _ (partsS_i hv c)
        have h2 := int_two hv h0 c
        have hb : ((s[0].toNat : Nat) : Int) = 105 := by rw [c]; rfl
        clear c HT hv ha
        go_enter Tryz.func111, Tryz.ntmps111
        go_wp2_with fail
        refine (endR 4 (by omega) s 0 hs (by omega) w).mono ?_
        rintro e w1 ⟨rfl, b1⟩
        rw [HE4.out]
        have HB1 : Hid (Below w.heap.size w w1) := b1
        clear b1
        have i1 : (1 : Int) ≤ ((s.size : Nat) : Int) - 1 := by omega
        have i2 : ((s.size : Nat) : Int) - 1 ≤ ((s.size : Nat) : Int) := by omega
        go_wp2_with fail
        go_region
        all_goals
          go_wp2
          go_ret3
          exact ⟨_, 1, rfl, (one_text w1 _ HB1.out.size).drew, below_drew1 (HB1.out.alloc HB1.out.size _)⟩
      · obtain ⟨rfl, rfl, rfl⟩ := HT _ _ (partsS_w hv (.inl c))
        have hb : ((s[0].toNat : Nat) : Int) = 116 := by rw [c]; rfl
        clear c HT hv ha
        go_enter Tryz.func111, Tryz.ntmps111
        go_wp2_with fail
        refine (endR 4 (by omega) s 0 hs (by omega) w).mono ?_
        rintro e w1 ⟨rfl, b1⟩
        rw [HE4.out]
        have HB1 : Hid (Below w.heap.size w w1) := b1
        clear b1
        go_wp2
        go_ret3
        exact ⟨_, 1, rfl, one_text w1 s HB1.out.size, HB1.out.alloc HB1.out.size _⟩
      · obtain ⟨rfl, rfl, rfl⟩ := HT _ _ (partsS_w hv (.inr c))
        have hb : ((s[0].toNat : Nat) : Int) = 102 := by rw [c]; rfl
        clear c HT hv ha
        go_enter Tryz.func111, Tryz.ntmps111
        go_wp2_with fail
        refine (endR 4 (by omega) s 0 hs (by omega) w).mono ?_
        rintro e w1 ⟨rfl, b1⟩
        rw [HE4.out]
        have HB1 : Hid (Below w.heap.size w w1) := b1
        clear b1
        go_wp2
        go_ret3
        exact ⟨_, 1, rfl, one_text w1 s HB1.out.size, HB1.out.alloc HB1.out.size _⟩
      · obtain ⟨j, hj, h21⟩ := first_colon hv c
        obtain ⟨rfl, rfl, rfl⟩ := HT _ _ (partsS_s hv c hj)
        have HU : Hid (∀ z, UptoA s 0 58 z → z = (j : Int)) := by
          rintro z (⟨j', rfl, hj', _⟩ | ⟨_, hfar⟩)
          · have h1 := firstAt_up hj' h0 (by rw [c]; decide)
            have a := hj.2.2.2
            have b := h1.2.2.2
            rcases Nat.lt_trichotomy j j' with h | h | h
            · exact absurd hj.2.2.1 (b j hj.1 h)
            · rw [h]
            · exact absurd h1.2.2.1 (a j' h1.1 h)
          · exact absurd hj.2.2.1 (hfar j (by omega) hj.2.1 (by omega))
        have hj1 := hj.1
        have hj2 := hj.2.1
        have hb : ((s[0].toNat : Nat) : Int) = 115 := by rw [c]; rfl
        clear c HT hv ha hj
        go_enter Tryz.func111, Tryz.ntmps111
        go_wp2_with fail
        refine (endR 4 (by omega) s 0 hs (by omega) w).mono ?_
        rintro e w1 ⟨rfl, b1⟩
        rw [HE4.out]
        have HB1 : Hid (Below w.heap.size w w1) := b1
        clear b1
        have i1 : (j : Int) + 1 ≤ ((s.size : Nat) : Int) := by omega
        have i0 : (0 : Int) ≤ (j : Int) + 1 := by omega
        have x1 : IntKind.i64.wrap ((j : Int) + 1) = (j : Int) + 1 := by rw [IntKind.wrap_i64]; omega
        go_wp2_with fail
        go_region_with (go_at_call 170; refine (uptoR s 0 58 hs (by omega) _).mono ?_; rintro e w3 ⟨z, rfl, hu, hw3⟩; obtain rfl := HU.out z hu; subst w3; clear hu)
        all_goals
          go_wp2
          go_ret3
          exact ⟨_, 1, rfl, (one_text w1 _ HB1.out.size).drew, below_drew1 (HB1.out.alloc HB1.out.size _)⟩
      · obtain ⟨rfl, rfl, rfl⟩ := HT _ _ (partsS_l hv c)
        exact partsNest91 s hs HV h0 c w
      · obtain ⟨rfl, rfl, rfl⟩ := HT _ _ (partsS_o hv c)
        exact partsNest123 s hs HV h0 c w
    · obtain ⟨rfl, rfl, rfl⟩ : k = 0 ∧ ps = [] ∧ E = 700 := by
        rcases ha.out with ⟨a1, a2⟩ | ⟨_, a1, a2, a3⟩
        · rw [partsS_none hv] at a1
          cases a1
        · exact ⟨a1, a2, a3⟩
      have hne : endZ 4 s 0 ≠ ((s.size : Nat) : Int) := fun c => hv ((isVal_iff s).2 ⟨hs, c⟩)
      clear hv ha
      go_enter Tryz.func111, Tryz.ntmps111
      go_wp2_with fail
      refine (endR 4 (by omega) s 0 hs (by omega) w).mono ?_
      rintro e w1 ⟨rfl, b1⟩
      have hq : (endZ 4 s 0 != ((s.size : Nat) : Int)) = true := by rw [bne_iff_ne]; exact hne
      generalize endZ 4 s 0 = z at *
      go_wp2
      go_ret3
      exact ⟨none, 0, rfl, World.ownsRow_nil _ _ _ _, b1⟩
  · obtain ⟨rfl, rfl, rfl⟩ : k = 0 ∧ ps = [] ∧ E = 700 := by
      rcases ha.out with ⟨a1, a2⟩ | ⟨_, a1, a2, a3⟩
      · rw [partsS_none (fun c => hs ((isVal_iff s).1 c).1)] at a1
        cases a1
      · exact ⟨a1, a2, a3⟩
    clear ha
    go_enter Tryz.func111, Tryz.ntmps111
    go_wp2
    go_ret3
    exact ⟨none, 0, rfl, World.ownsRow_nil _ _ _ _, Below.refl _ _⟩
end Go.Proofs.YtcpfhfdgfcilaaaGreatDoor.Val
namespace Go.Proofs.YtcpfhfdgfcilaaaGreatDoor.Val
open Go.ChangeShapes Go.WideShapes Go.ChangeAt Go.RowKit
open Tree
open Texts
structure Downs (f : Nat) (ps : List ByteArray) : Prop where
  size : ∀ p ∈ ps, p.size ≤ 65536
  val : ∀ p ∈ ps, below f (bl p) = some p.size
theorem kids_lt {ns : List Nd} (a : Nat) : ∀ j, j < (kids ns a).length → (kids ns a).getD j 0 < ns.length := by
  have key : ∀ k, ∀ u ∈ kidsTo ns a k, u < k := by
    intro k
    induction k with
    | zero => intro u hu; cases hu
    | succ k ih =>
      intro u hu
      rw [kidsTo] at hu
      split at hu
      · rcases List.mem_append.1 hu with c | c
        · have := ih u c; omega
        · rw [List.mem_singleton] at c; omega
      · have := ih u hu; omega
  intro j hj
  refine key ns.length _ ?_
  rw [List.getD_eq_getElem?_getD, List.getElem?_eq_getElem hj]
  exact List.getElem_mem hj

/-- What the document's Fits answers of a value that is no deeper than told. -/
def FitsR (x : Addr) (cap : Nat) (ns : List Nd) (f : Nat) : Prop := ∀ (a : Nat) (v : ByteArray) (w : World), a < ns.length → v.size ≤ 65536 → below f (bl v) = some v.size → Lies w x ns →
  Calls Tryz.prog 61 #[.agg #[.slice (some x) ns.length cap], .int .i64 (a : Int), .string v] w fun r w' => r = .returned (.bool (fitsF ns f a v)) ∧ Below w.heap.size w w'
theorem has_yes {ns : List Nd} (hmay : may ns = true) (a : Nat) (ha : a < ns.length) : hasB ns (a : Int) = true := by
  unfold hasB
  rw [hmay, decide_eq_true ⟨by omega, by omega⟩]
  rfl
/-- A node in a block of its own. -/
theorem boxN (w : World) (k p : Int) (b : Bool) : ∃ w1, w.alloc (.cells #[.int .i64 k, .int .i64 p, .bool b] 40) = w1 ∧ w1.cell? ⟨w.heap.size, 0, none⟩ = some (.int .i64 k) ∧ w1.cell? ⟨w.heap.size, 2, none⟩ = some (.bool b) ∧ Below w.heap.size w w1 :=
  ⟨_, rfl, by simp, by simp, (Below.refl _ _).alloc (Nat.le_refl _) _⟩
theorem add_zero {x : Addr} {w : World} {v : Value} (h : w.cell? (x.add 0) = some v) : w.cell? x = some v := by
  rw [show x.add 0 = x from by unfold Addr.add; split <;> simp_all] at h
  exact h
set_option maxRecDepth 20000 in
set_option maxHeartbeats 3200000 in
theorem fitsR_of (x : Addr) (cap : Nat) (ns : List Nd) (hmay : Hid (may ns = true)) (f : Nat) (hf : f ≤ 4) (ih : Hid (FitsR x cap ns f)) : FitsR x cap ns (f + 1) := by
  intro a v w ha hs hv hx
  have HM : Hid (May ns) := may_of hmay.out
  have HV : Hid (val f (bl v) = some v.size) := hv
  obtain ⟨ps, h1, hA⟩ := parts_told (isVal_below (f := f + 1) (by omega) hs hv)
  have HPS : Hid (partsS v = some (kindOf (bl v), ps)) := h1
  have HPA : Hid (PartsA (kindOf (bl v)) (bodyS v) ps) := hA
  have HTA : Hid (TellA v (kindOf (bl v)) ps 0) := .inl ⟨h1, rfl⟩
  have HHAS : Hid (hasB ns (a : Int) = true) := has_yes hmay.out a ha
  have HKA : Hid (kidsA ns (a : Int) = kids ns a) := by unfold Hid kidsA; rw [HHAS.out, if_pos rfl]
  obtain ⟨w1, e1, s1, c1, b1⟩ := boxed w (.slice (some x) ns.length cap) 24
  have HX1 : Hid (Lies w1 x ns) := hx.later b1
  have hlen : ns.length ≤ 8 := HM.out.most
  have HT1 : Hid (IsT w1 (some x) ns) := ⟨by unfold maxLen; omega, .inr ⟨x, rfl, HX1.out⟩⟩
  have B1 : Hid (Below w.heap.size w w1) := b1
  clear h1 hA hx s1 b1 hv
  obtain ⟨R, hR⟩ : ∃ R, fitsF ns (f + 1) a v = R := ⟨_, rfl⟩
  have HR : Hid (fitsF ns (f + 1) a v = R) := hR
  rw [hR]
  clear hR
  go_enter Tryz.func61, Tryz.ntmps61
  go_wp2_with fail
  refine (nodeMay (some x) cap ns (a : Int) w1 HT1.out).mono ?_
  rintro e w2 ⟨rfl, b2⟩
  rw [HHAS.out]
  have c2 := cell_later b2 c1
  have HX2 : Hid (Lies w2 x ns) := HX1.out.later b2
  have q0 : w2.cell? (x.add (a * 3)) = some (.int .i64 (nd ns a).kind) := HX2.out.kind a ha
  have q1 := HX2.out.par' a ha
  have q2 := HX2.out.null' a ha
  have B2 : Hid (Below w.heap.size w w2) := bel2 B1.out b2
  have hin := kindOf_in (bl v)
  have hbs := body_size v hs
  clear e1 c1 b2
  obtain ⟨n, hn⟩ : ∃ n, nd ns a = n := ⟨_, rfl⟩
  have HN : Hid (nd ns a = n) := hn
  rw [hn] at q0 q1 q2
  clear hn
  obtain ⟨vk, hvk⟩ : ∃ k, kindOf (bl v) = k := ⟨_, rfl⟩
  have HVK : Hid (kindOf (bl v) = vk) := hvk
  rw [hvk] at hin HTA HPA HPS
  clear hvk
  obtain ⟨w3, e3, m0, m2, b3⟩ := boxN w2 n.kind n.par n.null
  have hget : nd ns a = ns[a] := by
    unfold nd
    rw [List.getD_eq_getElem?_getD, List.getElem?_eq_getElem ha]
    rfl
  go_wp2_with fail
  clear e3 q0 q1 q2
  refine (partsR v vk ps 0 HTA w3).mono ?_
  rintro e w4 ⟨o4, cap4, rfl, hown4, b4⟩
  have b34 := bel2 b3 b4
  have c4 := cell_later b34 c2
  have m40 := cell_later b4 m0
  have m42 := cell_later b4 m2
  have HX4 : Hid (Lies w4 x ns) := HX2.out.later b34
  have HT4 : Hid (IsT w4 (some x) ns) := ⟨by unfold maxLen; omega, .inr ⟨x, rfl, HX4.out⟩⟩
  have B4 : Hid (Below w.heap.size w w4) := bel2 B2.out b34
  have HO4 : Hid (IsTx w4 o4 ps) := own_texts hown4
  clear hown4 b34 b3 b4 m0 m2 c2 HX2 HX1 HT1 HTA hget
  by_cases k1 : vk = -1
  · have HF : Hid (R = n.null) := by unfold Hid; rw [← HR.out, fits_null hf hs HV.out (HVK.out.trans k1), HN.out]
    subst k1
    clear hin
    go_wp2
    go_ret
    exact ⟨ret_bool HF.out.symm, B4.out⟩
  have hk0 : 0 ≤ vk := by omega
  have hk4 : vk ≤ 4 := hin.2
  clear hin
  go_wp2_with fail
  refine (kidsR (some x) cap ns (a : Int) w4 HT4.out).mono ?_
  rintro e w5 ⟨o5, cap5, rfl, hown5, b5⟩
  rw [HKA.out] at hown5 ⊢
  rw [HHAS.out]
  have c5 := cell_later b5 c4
  have m50 := cell_later b5 m40
  have HX5 : Hid (Lies w5 x ns) := HX4.out.later b5
  have B5 : Hid (Below w.heap.size w w5) := bel2 B4.out b5
  have HO5 : Hid (IsTx w5 o4 ps) := HO4.out.later b5
  have HK5 : Hid (IsI w5 w4.heap.size o5 (kids ns a)) := own_ints hown5
  clear hown5 b5 m40 m42 c4 HX4 HT4 HO4 k1
  by_cases k2 : vk = n.kind
  · have n2 : (vk != vk) = false := by rw [bne_eq_false_iff_eq]
    rw [← k2] at m50
    by_cases k3 : vk = 2
    · obtain rfl : ps = [bodyS v] := by
        rcases HPA.out with ⟨c, _⟩ | ⟨c, _⟩ | ⟨_, c⟩
        · omega
        · omega
        · exact c
      have HF : Hid (R = decide ((bodyS v).size ≤ 16)) := by unfold Hid; rw [← HR.out]; exact fits_bytes hf hs HV.out (HVK.out.trans k3) (by rw [HN.out, ← k2, k3])
      clear HR HPS HPA
      generalize bodyS v = vb at *
      obtain ⟨y, rfl, hy⟩ := tx_at HO5.out (Nat.le_refl _)
      have y0 : w5.cell? y = some (.string vb) := add_zero (hy 0 (Nat.lt_succ_self 0))
      have HLF : Hid (isLeaf 2 = true) := rfl
      clear k2 hy
      subst k3
      by_cases h16 : vb.size ≤ 16
      · have HF2 : Hid (R = true) := by unfold Hid; rw [HF.out]; exact decide_eq_true h16
        have h17 : ((vb.size : Nat) : Int) ≤ 16 := by omega
        go_wp2_with fail
        go_loopw [13] (fun t wr => t = .int .i64 0 ∧ Below w.heap.size w wr) (fun _ _ => 0)
        case atStart => exact ⟨rfl, B5.out⟩
        case round =>
          obtain ⟨rfl, hbl⟩ := hrel
          go_wp2_with fail
          refine (refLeaf _ _).mono ?_
          rintro e wx ⟨rfl, hwx⟩
          subst wx
          rw [HLF.out]
          go_wp2
          go_ret
          exact ⟨ret_bool HF2.out.symm, hbl⟩
      · have HF2 : Hid (R = false) := by unfold Hid; rw [HF.out]; exact decide_eq_false h16
        have h17 : ¬ ((vb.size : Nat) : Int) ≤ 16 := by omega
        go_wp2
        go_ret
        exact ⟨ret_bool HF2.out.symm, B5.out⟩
    by_cases k4 : vk = 3
    · obtain ⟨ps', h1, h2, h3⟩ := nest_parts hf hs HV.out (.inl (HVK.out.trans k4))
      obtain rfl : ps = ps' := by
        have := HPS.out
        rw [h1, HVK.out] at this
        injection this with this
        injection this with _ this
        exact this.symm
      have HF : Hid (R = (decide (ps.length ≤ 64) && ps.all (fitsF ns f ((kids ns a).getD 0 0)))) := by unfold Hid; rw [← HR.out]; exact fits_list h1 (HVK.out.trans k4) (by rw [HN.out, ← k2, k4])
      have HNK : Hid ((kids ns a).length = 1) := HM.out.list a ha (by rw [HN.out, ← k2]; exact k4)
      have HD : Hid (Downs f ps) := ⟨fun p hp => by
        obtain ⟨i, hi, e⟩ := List.getElem_of_mem hp
        have := h2.pos_le (i + 1)
        rw [pos_succ ps i hi, getD_text ps i hi, e] at this
        omega, h3⟩
      have hpl : ps.length ≤ 65536 := Nat.le_trans h2.len hbs
      have HKLT : Hid (∀ j, j < (kids ns a).length → (kids ns a).getD j 0 < ns.length) := kids_lt a
      obtain ⟨F, hF⟩ : ∃ F : Nat → Bool, ∀ i, F i = fitsF ns f ((kids ns a).getD 0 0) (ps.getD i ByteArray.empty) := ⟨_, fun _ => rfl⟩
      have HFF : Hid (∀ i, F i = fitsF ns f ((kids ns a).getD 0 0) (ps.getD i ByteArray.empty)) := hF
      clear hF h1 h2 h3
      by_cases hc : ps.length ≤ 64
      · have HF2 : Hid (R = allTo F ps.length) := by
          unfold Hid
          rw [HF.out, decide_eq_true hc, Bool.true_and, all_to]
          exact allTo_congr fun i _ => (HFF.out i).symm
        have hks1 : 1 ≤ (kids ns a).length := by rw [HNK.out]; omega
        have hc2 : ((ps.length : Nat) : Int) ≤ 64 := by omega
        have HS : Hid (∀ (i : Nat) (y : World), i < ps.length → Below w5.heap.size w5 y → Calls Tryz.prog 61 #[.agg #[.slice (some x) ns.length cap], .int .i64 (((kids ns a).getD 0 0 : Nat) : Int), .string (ps.getD i ByteArray.empty)] y fun r w' => r = .returned (.bool (F i)) ∧ Below y.heap.size y w') := by
          intro i y hi hy
          rw [HFF.out i]
          exact ih.out _ _ y (HKLT.out _ (by omega)) (HD.out.size _ (getD_memT ps i hi)) (HD.out.val _ (getD_memT ps i hi)) (HX5.out.later hy)
        obtain ⟨g5, rfl, _, hrow⟩ := HK5.out.resolve_left (by intro e; rw [e] at hks1; cases hks1)
        have HROW : Hid (Row w5 g5 (kids ns a).length (fun i => (kids ns a).getD i 0)) := hrow
        have HC5 : Hid (w5.cell? ⟨w.heap.size, 0, none⟩ = some (.slice (some x) ns.length cap)) := c5
        clear hrow HFF HKLT HF HNK k2 k3
        generalize kids ns a = ks at *
        subst k4
        go_wp2_with fail
        go_loopw [13] (fun t wr => ∃ i : Nat, i ≤ ps.length ∧ t = .int .i64 (i : Int) ∧ (∀ j, j < i → F j = true) ∧ Below w5.heap.size w5 wr) (fun t _ => ps.length - (intOf t).toNat)
        case atStart => exact ⟨0, Nat.zero_le _, rfl, fun j hj => by omega, Below.refl _ _⟩
        case round =>
          obtain ⟨i, hil, rfl, hall, hbl⟩ := hrel
          have HA : Hid (∀ j, j < i → F j = true) := hall
          clear hall
          by_cases hlt : i < ps.length
          · obtain ⟨y, rfl, hy⟩ := tx_at HO5.out (by omega)
            have d1 := cell_later hbl (hy i hlt)
            have d2 := cell_later hbl HC5.out
            have d3 := cell_later hbl (HROW.out.cell 0 (by omega))
            have HSI : Hid (∀ (y : World), Below w5.heap.size w5 y → Calls Tryz.prog 61 #[.agg #[.slice (some x) ns.length cap], .int .i64 ((ks.getD 0 0 : Nat) : Int), .string (ps.getD i ByteArray.empty)] y fun r w' => r = .returned (.bool (F i)) ∧ Below y.heap.size y w') := fun y hy => HS.out i y hlt hy
            have HBL : Hid (Below w5.heap.size w5 wr) := hbl
            have hi0 : (0 : Int) ≤ (i : Int) := by omega
            have hi1 : (i : Int) < (ps.length : Int) := by omega
            have hk01 : (0 : Int) < (ks.length : Int) := by omega
            clear hy HS c5 m50 hbl
            generalize ps.getD i ByteArray.empty = u at *
            generalize ks.getD 0 0 = c at *
            go_wp2_with fail
            refine (refLeaf _ _).mono ?_
            rintro e wx ⟨rfl, hwx⟩
            subst wx
            rw [show isLeaf 3 = false from by decide]
            go_wp2_with fail
            go_region_with (go_at_call 61; refine (HSI.out _ (HBL.out.trans ((drewN_below _ 1).mono HBL.out.size))).mono ?_; rintro e w6 ⟨rfl, b6⟩)
            all_goals
              have HB6 : Hid (Below w5.heap.size w5 w6) := (HBL.out.trans ((drewN_below _ 1).mono HBL.out.size)).trans (b6.mono (by have := HBL.out.size; have := (drewN_below wr 1).size; omega))
              clear b6 d1 d2 d3
              cases hfi : F i
              · have HF3 : Hid (R = false) := by unfold Hid; rw [HF2.out]; exact allTo_no hlt hfi
                clear hfi
                go_wp2
                go_ret
                exact ⟨ret_bool HF3.out.symm, bel2 B5.out HB6.out⟩
              · have HFI : Hid (F i = true) := hfi
                clear hfi
                go_wp2
                go_roundw
                case rel =>
                  refine ⟨i + 1, by omega, by go_num, fun j hj => ?_, HB6.out⟩
                  by_cases e : j = i
                  · rw [e]; exact HFI.out
                  · exact HA.out j (by omega)
                case measure => simp [intOf]; omega
          · obtain rfl : i = ps.length := by omega
            have HF3 : Hid (R = true) := by unfold Hid; rw [HF2.out]; exact allTo_of HA.out
            clear HS c5 m50
            go_wp2
            go_ret
            exact ⟨ret_bool HF3.out.symm, bel2 B5.out hbl⟩
      · have HF2 : Hid (R = false) := by unfold Hid; rw [HF.out, decide_eq_false hc, Bool.false_and]
        have hc2 : ¬ ((ps.length : Nat) : Int) ≤ 64 := by omega
        clear hc HF HFF HNK HKLT k2 k3
        generalize kids ns a = ks at *
        subst k4
        go_wp2
        go_ret
        exact ⟨ret_bool HF2.out.symm, B5.out⟩
    by_cases k5 : vk = 4
    · obtain ⟨ps', h1, h2, h3⟩ := nest_parts hf hs HV.out (.inr (HVK.out.trans k5))
      obtain rfl : ps = ps' := by
        have := HPS.out
        rw [h1, HVK.out] at this
        injection this with this
        injection this with _ this
        exact this.symm
      have HF : Hid (R = (decide (ps.length = (kids ns a).length) && ((kids ns a).zip ps).all fun q => fitsF ns f q.1 q.2)) := by unfold Hid; rw [← HR.out]; exact fits_struct h1 (HVK.out.trans k5) (by rw [HN.out, ← k2, k5])
      have HNK : Hid (1 ≤ (kids ns a).length ∧ (kids ns a).length ≤ 8) := ⟨HM.out.struct a ha (by rw [HN.out, ← k2]; exact k5), by have h1 := length_kidsTo ns a ns.length; show (kidsTo ns a ns.length).length ≤ 8; omega⟩
      have HD : Hid (Downs f ps) := ⟨fun p hp => by
        obtain ⟨i, hi, e⟩ := List.getElem_of_mem hp
        have := h2.pos_le (i + 1)
        rw [pos_succ ps i hi, getD_text ps i hi, e] at this
        omega, h3⟩
      have hpl : ps.length ≤ 65536 := Nat.le_trans h2.len hbs
      have HKLT : Hid (∀ j, j < (kids ns a).length → (kids ns a).getD j 0 < ns.length) := kids_lt a
      obtain ⟨F, hF⟩ : ∃ F : Nat → Bool, ∀ i, F i = fitsF ns f ((kids ns a).getD i 0) (ps.getD i ByteArray.empty) := ⟨_, fun _ => rfl⟩
      have HFF : Hid (∀ i, F i = fitsF ns f ((kids ns a).getD i 0) (ps.getD i ByteArray.empty)) := hF
      clear hF h1 h2 h3
      by_cases hc : ps.length = (kids ns a).length
      · have HF2 : Hid (R = allTo F ps.length) := by
          unfold Hid
          rw [HF.out, decide_eq_true hc, Bool.true_and, zip_to _ _ hc, ← hc]
          exact allTo_congr fun i _ => (HFF.out i).symm
        have hks1 : 1 ≤ (kids ns a).length := HNK.out.1
        have hc2 : (((ps.length : Nat) : Int) != (((kids ns a).length : Nat) : Int)) = false := by rw [bne_eq_false_iff_eq]; omega
        have HS : Hid (∀ (i : Nat) (y : World), i < ps.length → Below w5.heap.size w5 y → Calls Tryz.prog 61 #[.agg #[.slice (some x) ns.length cap], .int .i64 (((kids ns a).getD i 0 : Nat) : Int), .string (ps.getD i ByteArray.empty)] y fun r w' => r = .returned (.bool (F i)) ∧ Below y.heap.size y w') := by
          intro i y hi hy
          rw [HFF.out i]
          exact ih.out _ _ y (HKLT.out _ (by omega)) (HD.out.size _ (getD_memT ps i hi)) (HD.out.val _ (getD_memT ps i hi)) (HX5.out.later hy)
        obtain ⟨g5, rfl, _, hrow⟩ := HK5.out.resolve_left (by intro e; rw [e] at hks1; cases hks1)
        have HROW : Hid (Row w5 g5 (kids ns a).length (fun i => (kids ns a).getD i 0)) := hrow
        have HC5 : Hid (w5.cell? ⟨w.heap.size, 0, none⟩ = some (.slice (some x) ns.length cap)) := c5
        clear hrow HFF HKLT HF HNK k2 k3 k4
        generalize kids ns a = ks at *
        subst k5
        go_wp2_with fail
        go_loopw [13] (fun t wr => ∃ i : Nat, i ≤ ps.length ∧ t = .int .i64 (i : Int) ∧ (∀ j, j < i → F j = true) ∧ Below w5.heap.size w5 wr) (fun t _ => ps.length - (intOf t).toNat)
        case atStart => exact ⟨0, Nat.zero_le _, rfl, fun j hj => by omega, Below.refl _ _⟩
        case round =>
          obtain ⟨i, hil, rfl, hall, hbl⟩ := hrel
          have HA : Hid (∀ j, j < i → F j = true) := hall
          clear hall
          by_cases hlt : i < ps.length
          · obtain ⟨y, rfl, hy⟩ := tx_at HO5.out (by omega)
            have d1 := cell_later hbl (hy i hlt)
            have d2 := cell_later hbl HC5.out
            have d3 := cell_later hbl (HROW.out.cell 0 (by omega))
            have d4 := cell_later hbl (HROW.out.cell i (by omega))
            have hk02 : (i : Int) < (ks.length : Int) := by omega
            have HSI : Hid (∀ (y : World), Below w5.heap.size w5 y → Calls Tryz.prog 61 #[.agg #[.slice (some x) ns.length cap], .int .i64 ((ks.getD i 0 : Nat) : Int), .string (ps.getD i ByteArray.empty)] y fun r w' => r = .returned (.bool (F i)) ∧ Below y.heap.size y w') := fun y hy => HS.out i y hlt hy
            have HBL : Hid (Below w5.heap.size w5 wr) := hbl
            have hi0 : (0 : Int) ≤ (i : Int) := by omega
            have hi1 : (i : Int) < (ps.length : Int) := by omega
            have hk01 : (0 : Int) < (ks.length : Int) := by omega
            clear hy HS c5 m50 hbl
            generalize ps.getD i ByteArray.empty = u at *
            generalize ks.getD i 0 = c at *
            generalize ks.getD 0 0 = c0 at *
            go_wp2_with fail
            refine (refLeaf _ _).mono ?_
            rintro e wx ⟨rfl, hwx⟩
            subst wx
            rw [show isLeaf 4 = false from by decide]
            go_wp2_with fail
            go_region_with (go_at_call 61; refine (HSI.out _ (HBL.out.trans ((drewN_below _ 1).mono HBL.out.size))).mono ?_; rintro e w6 ⟨rfl, b6⟩)
            all_goals
              have HB6 : Hid (Below w5.heap.size w5 w6) := (HBL.out.trans ((drewN_below _ 1).mono HBL.out.size)).trans (b6.mono (by have := HBL.out.size; have := (drewN_below wr 1).size; omega))
              clear b6 d1 d2 d3
              cases hfi : F i
              · have HF3 : Hid (R = false) := by unfold Hid; rw [HF2.out]; exact allTo_no hlt hfi
                clear hfi
                go_wp2
                go_ret
                exact ⟨ret_bool HF3.out.symm, bel2 B5.out HB6.out⟩
              · have HFI : Hid (F i = true) := hfi
                clear hfi
                go_wp2
                go_roundw
                case rel =>
                  refine ⟨i + 1, by omega, by go_num, fun j hj => ?_, HB6.out⟩
                  by_cases e : j = i
                  · rw [e]; exact HFI.out
                  · exact HA.out j (by omega)
                case measure => simp [intOf]; omega
          · obtain rfl : i = ps.length := by omega
            have HF3 : Hid (R = true) := by unfold Hid; rw [HF2.out]; exact allTo_of HA.out
            clear HS c5 m50
            go_wp2
            go_ret
            exact ⟨ret_bool HF3.out.symm, bel2 B5.out hbl⟩
      · have HF2 : Hid (R = false) := by unfold Hid; rw [HF.out, decide_eq_false hc, Bool.false_and]
        have hc2 : (((ps.length : Nat) : Int) != (((kids ns a).length : Nat) : Int)) = true := by rw [bne_iff_ne]; omega
        clear hc HF HFF HNK HKLT k2 k3 k4
        generalize kids ns a = ks at *
        subst k5
        go_wp2
        go_ret
        exact ⟨ret_bool HF2.out.symm, B5.out⟩
    · obtain rfl : ps = [bodyS v] := by
        rcases HPA.out with ⟨c, _⟩ | ⟨c, _⟩ | ⟨_, c⟩
        · omega
        · omega
        · exact c
      have HF2 : Hid (R = true) := by unfold Hid; rw [← HR.out]; exact fits_leaf hf hs HV.out (by rw [HVK.out]; omega) (by rw [HN.out, HVK.out]; exact k2)
      have n3 : (vk == 2) = false := by rw [beq_eq_false_iff_ne]; exact k3
      have n4 : (vk == 3) = false := by rw [beq_eq_false_iff_ne]; exact k4
      have n5 : (vk == 4) = false := by rw [beq_eq_false_iff_ne]; exact k5
      have HLF : Hid (isLeaf vk = true) := by unfold Hid isLeaf; exact decide_eq_true ⟨k4, k5⟩
      clear HR HPS HPA k2 k3 k4 k5
      go_wp2_with fail
      go_loopw [13] (fun t wr => t = .int .i64 0 ∧ Below w.heap.size w wr) (fun _ _ => 0)
      case atStart => exact ⟨rfl, B5.out⟩
      case round =>
        obtain ⟨rfl, hbl⟩ := hrel
        go_wp2_with fail
        refine (refLeaf _ _).mono ?_
        rintro e wx ⟨rfl, hwx⟩
        subst wx
        rw [HLF.out]
        go_wp2
        go_ret
        exact ⟨ret_bool HF2.out.symm, hbl⟩
  · have HF : Hid (R = false) := by unfold Hid; rw [← HR.out]; exact fits_other hf hs HV.out (by rw [HVK.out]; omega) (by rw [HVK.out, HN.out]; exact k2)
    have n2 : (vk != n.kind) = true := by rw [bne_iff_ne]; exact k2
    clear k2
    go_wp2
    go_ret
    exact ⟨ret_bool HF.out.symm, B5.out⟩
theorem fitsR_all (x : Addr) (cap : Nat) (ns : List Nd) (hmay : Hid (may ns = true)) : ∀ f, f ≤ 5 → FitsR x cap ns f := by
  intro f
  induction f with
  | zero =>
    intro _ a v w _ _ h
    cases h
  | succ f ih => exact fun hf => fitsR_of x cap ns hmay f (by omega) (ih (by omega))
theorem fitsZ_no {ns : List Nd} {a : Int} {v : ByteArray} (h : hasB ns a = false) : fitsZ ns a v = false := by
  unfold fitsZ
  unfold hasB at h
  rw [← Bool.and_assoc, h, Bool.false_and]
theorem fitsZ_yes {ns : List Nd} {a : Nat} {v : ByteArray} (h : hasB ns (a : Int) = true) : fitsZ ns (a : Int) v = fitsF ns 8 a v := by
  unfold fitsZ
  unfold hasB at h
  rw [← Bool.and_assoc, h, Bool.true_and, Int.toNat_natCast]
set_option maxRecDepth 20000 in
set_option maxHeartbeats 1600000 in
theorem fitsRZ (o : Option Addr) (cap : Nat) (ns : List Nd) (at' : Int) (v : ByteArray) (w : World) (ht : Hid (IsT w o ns)) :
    Calls Tryz.prog 61 #[.agg #[.slice o ns.length cap], .int .i64 at', .string v] w fun r w' => r = .returned (.bool (fitsZ ns at' v)) ∧ Below w.heap.size w w' := by
  cases hh : hasB ns at'
  · rw [fitsZ_no hh]
    obtain ⟨w1, e1, s1, c1, b1⟩ := boxed w (.slice o ns.length cap) 24
    have HT1 : Hid (IsT w1 o ns) := ht.out.later b1
    have B1 : Hid (Below w.heap.size w w1) := b1
    have HH : Hid (hasB ns at' = false) := hh
    clear hh s1 b1
    go_enter Tryz.func61, Tryz.ntmps61
    go_wp2_with fail
    refine (nodeMay o cap ns at' w1 HT1.out).mono ?_
    rintro e w2 ⟨rfl, b2⟩
    rw [HH.out]
    clear e1 c1
    go_wp2
    go_ret
    exact ⟨rfl, bel2 B1.out b2⟩
  · obtain ⟨a, rfl, ha, hm⟩ := has_of hh
    have HMAY : Hid (may ns = true) := by
      unfold Hid
      unfold hasB at hh
      rw [Bool.and_eq_true] at hh
      exact hh.2
    rw [fitsZ_yes hh]
    obtain ⟨x, rfl, hx⟩ := ht.out.some (by omega)
    by_cases hv : isVal (bl v)
    · have hs : v.size ≤ 65536 := by have := hv.1; rw [bl_length] at this; exact this
      have h5 : below 5 (bl v) = some v.size := by have := hv.2; rw [bl_length] at this; exact this
      rw [fits_fuel 5 8 a v (by omega) (by omega) hs h5]
      exact fitsR_all x cap ns HMAY 5 (Nat.le_refl _) a v w ha hs h5 hx
    · have HNV : Hid (partsS v = none) := partsS_none hv
      have HTA : Hid (TellA v 0 [] 700) := .inr ⟨HNV.out, rfl, rfl, rfl⟩
      have e8 : fitsF ns 8 a v = false := by rw [fitsF_succ, HNV.out]
      rw [e8]
      obtain ⟨w1, e1, s1, c1, b1⟩ := boxed w (.slice (some x) ns.length cap) 24
      have HX1 : Hid (Lies w1 x ns) := hx.later b1
      have HT1 : Hid (IsT w1 (some x) ns) := ht.out.later b1
      have B1 : Hid (Below w.heap.size w w1) := b1
      have HH : Hid (hasB ns (a : Int) = true) := hh
      clear hh hx s1 b1 e8 hv
      go_enter Tryz.func61, Tryz.ntmps61
      go_wp2_with fail
      refine (nodeMay (some x) cap ns (a : Int) w1 HT1.out).mono ?_
      rintro e w2 ⟨rfl, b2⟩
      rw [HH.out]
      have c2 := cell_later b2 c1
      have HX2 : Hid (Lies w2 x ns) := HX1.out.later b2
      have q0 : w2.cell? (x.add (a * 3)) = some (.int .i64 (nd ns a).kind) := HX2.out.kind a ha
      have q1 := HX2.out.par' a ha
      have q2 := HX2.out.null' a ha
      have B2 : Hid (Below w.heap.size w w2) := bel2 B1.out b2
      clear e1 c1 b2
      obtain ⟨n, hn⟩ : ∃ n, nd ns a = n := ⟨_, rfl⟩
      have HN : Hid (nd ns a = n) := hn
      rw [hn] at q0 q1 q2
      obtain ⟨w3, e3, m0, m2, b3⟩ := boxN w2 n.kind n.par n.null
      have hget : nd ns a = ns[a] := by
        unfold nd
        rw [List.getD_eq_getElem?_getD, List.getElem?_eq_getElem ha]
        rfl
      go_wp2_with fail
      clear e3 q0 q1 q2
      refine (partsR v 0 [] 700 HTA w3).mono ?_
      rintro e w4 ⟨o4, cap4, rfl, hown4, b4⟩
      have B4 : Hid (Below w.heap.size w w4) := bel2 B2.out (bel2 b3 b4)
      clear hown4 b4 m0 m2 b3
      go_wp2
      go_ret
      exact ⟨rfl, B4.out⟩
end Go.Proofs.YtcpfhfdgfcilaaaGreatDoor.Val
namespace Go.Proofs.YtcpfhfdgfcilaaaGreatDoor.Arr
open Go.ChangeShapes Go.WideShapes Go.ChangeAt Go.RowKit
open Tree Val

/-- A reader in a box. -/
structure Rx (w : World) (g : Nat) (a : Arr) (o : Option Addr) (cap : Nat) (k : Int) (r : Option Addr) (n c : Nat) : Prop where
  blk : w.heap[g]? = some (.cells #[.int .i64 a.layout, .int .i64 a.offset, .int .i64 a.length, .string a.valid, .string a.ends, .string a.data, .slice o a.kids.length cap, .int .i64 k, .slice r n c] 71)
theorem Rx.lt {w : World} {g : Nat} {a : Arr} {o : Option Addr} {cap : Nat} {k : Int} {r : Option Addr} {n c : Nat} (h : Rx w g a o cap k r n c) : g < w.heap.size := (Array.getElem?_eq_some_iff.1 h.blk).1
theorem Rx.c0 {w : World} {g : Nat} {a : Arr} {o : Option Addr} {cap : Nat} {k : Int} {r : Option Addr} {n c : Nat} (h : Rx w g a o cap k r n c) : w.cell? ⟨g, 0, none⟩ = some (.int .i64 a.layout) := by simp [World.cell?, h.blk]
theorem Rx.c1 {w : World} {g : Nat} {a : Arr} {o : Option Addr} {cap : Nat} {k : Int} {r : Option Addr} {n c : Nat} (h : Rx w g a o cap k r n c) : w.cell? ⟨g, 1, none⟩ = some (.int .i64 a.offset) := by simp [World.cell?, h.blk]
theorem Rx.c2 {w : World} {g : Nat} {a : Arr} {o : Option Addr} {cap : Nat} {k : Int} {r : Option Addr} {n c : Nat} (h : Rx w g a o cap k r n c) : w.cell? ⟨g, 2, none⟩ = some (.int .i64 a.length) := by simp [World.cell?, h.blk]
theorem Rx.c3 {w : World} {g : Nat} {a : Arr} {o : Option Addr} {cap : Nat} {k : Int} {r : Option Addr} {n c : Nat} (h : Rx w g a o cap k r n c) : w.cell? ⟨g, 3, none⟩ = some (.string a.valid) := by simp [World.cell?, h.blk]
theorem Rx.c4 {w : World} {g : Nat} {a : Arr} {o : Option Addr} {cap : Nat} {k : Int} {r : Option Addr} {n c : Nat} (h : Rx w g a o cap k r n c) : w.cell? ⟨g, 4, none⟩ = some (.string a.ends) := by simp [World.cell?, h.blk]
theorem Rx.c5 {w : World} {g : Nat} {a : Arr} {o : Option Addr} {cap : Nat} {k : Int} {r : Option Addr} {n c : Nat} (h : Rx w g a o cap k r n c) : w.cell? ⟨g, 5, none⟩ = some (.string a.data) := by simp [World.cell?, h.blk]
theorem Rx.c6 {w : World} {g : Nat} {a : Arr} {o : Option Addr} {cap : Nat} {k : Int} {r : Option Addr} {n c : Nat} (h : Rx w g a o cap k r n c) : w.cell? ⟨g, 6, none⟩ = some (.slice o a.kids.length cap) := by simp [World.cell?, h.blk]
theorem Rx.c8 {w : World} {g : Nat} {a : Arr} {o : Option Addr} {cap : Nat} {k : Int} {r : Option Addr} {n c : Nat} (h : Rx w g a o cap k r n c) : w.cell? ⟨g, 8, none⟩ = some (.slice r n c) := by simp [World.cell?, h.blk]
theorem Rx.fz {w : World} {g : Nat} {a : Arr} {o : Option Addr} {cap : Nat} {k : Int} {r : Option Addr} {n c : Nat} (h : Rx w g a o cap k r n c) (j : Nat) : w.frozen? ⟨g, j, none⟩ = false := by simp [World.frozen?, h.blk]
theorem Rx.later {w : World} {g : Nat} {a : Arr} {o : Option Addr} {cap : Nat} {k : Int} {r : Option Addr} {n c : Nat} (h : Rx w g a o cap k r n c) {w' : World} (hb : Below w.heap.size w w') : Rx w' g a o cap k r n c := ⟨(hb.block g h.lt).trans h.blk⟩
end Go.Proofs.YtcpfhfdgfcilaaaGreatDoor.Arr
