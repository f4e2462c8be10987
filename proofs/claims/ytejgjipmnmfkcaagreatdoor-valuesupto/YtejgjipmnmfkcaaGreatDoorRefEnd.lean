/-
  Where a value ends, as the document's own answer looks for it: contracts.
-/
import Derived.Test.YtejgjipmnmfkcaaGreatDoorDig
import Derived.Test.YtejgjipmnmfkcaaGreatDoorDigWalk
import Derived.Test.YtejgjipmnmfkcaaGreatDoorRead
import Derived.Test.YtejgjipmnmfkcaaGreatDoorPlaces
import Derived.Test.YtejgjipmnmfkcaaGreatDoorMake
import Derived.Test.YtejgjipmnmfkcaaGreatDoorTk
import Derived.Test.YtejgjipmnmfkcaaGreatDoorRefDig
import Derived.Deep.CutBlock
namespace Go.Proofs.YtejgjipmnmfkcaaGreatDoor.Val
open Go.ChangeShapes Go.WideShapes Go.ChangeAt Go.RowKit

/-- Where a sign is, from a place on, near by. -/
def UptoA (s : ByteArray) (p : Nat) (c : UInt8) (r : Int) : Prop := (∃ k : Nat, r = (k : Int) ∧ FirstAt s p c k ∧ k < p + 22) ∨ r = -1 ∧ ∀ j, p ≤ j → j < s.size → j < p + 22 → (bl s).getD j 0 ≠ c
set_option maxRecDepth 20000 in
set_option maxHeartbeats 800000 in
theorem uptoR (s : ByteArray) (p : Nat) (c : UInt8) (hs : s.size ≤ 65536) (hp : p ≤ 65536) (w : World) :
    Calls Tryz.prog 31 #[.string s, .int .i64 (p : Int), .int .u8 ((c.toNat : Nat) : Int)] w fun r w' => ∃ z, r = .returned (.int .i64 z) ∧ UptoA s p c z ∧ w' = w := by
  go_enter Tryz.func31, Tryz.ntmps31
  go_wp2_with fail
  go_loop [7] (fun t => ∃ k : Nat, p ≤ k ∧ k ≤ p + 22 ∧ t = .int .i64 (k : Int) ∧ ∀ j, p ≤ j → j < k → (bl s).getD j 0 ≠ c) (fun t => p + 22 - (intOf t).toNat)
  case atStart => exact ⟨p, Nat.le_refl _, by omega, rfl, fun j h1 h2 => by omega⟩
  case round =>
    obtain ⟨k, h1, h2, rfl, hno⟩ := hrel
    have HNO : Hid (∀ j, p ≤ j → j < k → (bl s).getD j 0 ≠ c) := hno
    clear hno
    by_cases ha : k < s.size
    · by_cases hb : k < p + 22
      · have HAT : Hid (s[k] = (bl s).getD k 0) := bl_at s k ha
        by_cases hc : (bl s).getD k 0 = c
        · have he : (((s[k].toNat : Nat) : Int) == ((c.toNat : Nat) : Int)) = true := by rw [HAT.out, hc, beq_iff_eq]
          have H : Hid (UptoA s p c (k : Int)) := .inl ⟨k, rfl, ⟨h1, ha, hc, HNO.out⟩, hb⟩
          clear hc HNO HAT
          go_wp2
          go_ret
          exact ⟨_, rfl, H.out, rfl⟩
        · have he : (((s[k].toNat : Nat) : Int) == ((c.toNat : Nat) : Int)) = false := by
            rw [HAT.out, beq_eq_false_iff_ne]
            intro e
            exact hc (UInt8.toNat_inj.1 (by omega))
          have HN : Hid (∀ j, p ≤ j → j < k + 1 → (bl s).getD j 0 ≠ c) := fun j j1 j2 => by
            by_cases e : j = k
            · rw [e]; exact hc
            · exact HNO.out j j1 (by omega)
          clear hc HNO HAT
          go_wp2
          go_round
          case rel => exact ⟨k + 1, by omega, by omega, by go_num, HN.out⟩
          case measure => simp [intOf]; omega
      · have H : Hid (UptoA s p c (-1)) := .inr ⟨rfl, fun j j1 _ j3 => HNO.out j j1 (by omega)⟩
        go_wp2
        go_ret
        exact ⟨_, rfl, H.out, rfl⟩
    · have H : Hid (UptoA s p c (-1)) := .inr ⟨rfl, fun j j1 j2 _ => HNO.out j j1 (by omega)⟩
      go_wp2
      go_ret
      exact ⟨_, rfl, H.out, rfl⟩
/-- What is read of a text as a number. -/
def WholeA (s : ByteArray) (x : Int) : Prop := ∀ y, numOf (bl s) = some y → x = y
theorem wholeA_none {s : ByteArray} {x : Int} (h : numOf (bl s) = none) : WholeA s x := fun y c => by rw [h] at c; cases c
theorem wholeA_some {s : ByteArray} {x : Int} (h : numOf (bl s) = some x) : WholeA s x := fun y c => by rw [h] at c; injection c
theorem text_eq {l : List UInt8} {s : ByteArray} (h : l = bl s) : mk l = s := by rw [h]; exact mk_of s
set_option maxRecDepth 20000 in
set_option maxHeartbeats 1600000 in
theorem wholeR (s : ByteArray) (hs : s.size ≤ 65536) (w : World) :
    Calls Tryz.prog 48 #[.string s] w fun r w' => ∃ x, r = .returned (.tuple #[.int .i64 x, .bool (numOf (bl s)).isSome]) ∧ WholeA s x ∧ Below w.heap.size w w' := by
  have HLEN : Hid ((bl s).length = s.size) := bl_length s
  go_enter Tryz.func48, Tryz.ntmps48
  go_wp2_with fail
  go_loop [4, 5] (fun v t => ∃ (k : Nat) (x : Int), k ≤ s.size ∧ t = .int .i64 (k : Int) ∧ v = .int .i64 x ∧ At64 x (evalW (bl s) k)) (fun _ t => s.size - (intOf t).toNat)
  case atStart => exact ⟨0, 0, Nat.zero_le _, rfl, rfl, by rw [evalW_zero]; exact At64.zero⟩
  case round =>
    obtain ⟨k, x, hk, rfl, rfl, hx⟩ := hrel
    have HX : Hid (At64 x (evalW (bl s) k)) := hx
    clear hx
    by_cases hend : k < s.size ∧ s.size < 21
    · obtain ⟨ha, hb⟩ := hend
      have HAT : Hid (s[k] = (bl s).getD k 0) := bl_at s k ha
      have hpos : 0 < s.size := by omega
      have HAZ : Hid (s[0] = (bl s).getD 0 0) := bl_at s 0 hpos
      by_cases hsg : k = 0 ∧ (bl s).getD 0 0 = 45
      · obtain ⟨rfl, h45⟩ := hsg
        have he : ((s[0].toNat : Nat) : Int) = 45 := by rw [HAZ.out, h45]; rfl
        have HN : Hid (At64 x (evalW (bl s) 1)) := by
          have := HX.out
          rw [evalW_zero] at this
          unfold Hid
          rw [evalW_one _ h45]
          exact this
        clear h45 HAZ HAT HX
        go_wp2
        go_round
        case rel => exact ⟨1, x, by omega, by go_num, rfl, HN.out⟩
        case measure => simp [intOf]; omega
      · have HK0 : Hid (k = 0 → ((s[k].toNat : Nat) : Int) ≠ 45) := by
          rintro rfl c
          refine hsg ⟨rfl, ?_⟩
          rw [HAZ.out] at c
          exact UInt8.toNat_inj.1 (by show _ = 45; omega)
        by_cases hdg : 48 ≤ s[k].toNat ∧ s[k].toNat ≤ 57
        · obtain ⟨d1, d2⟩ := hdg
          have hne : ((s[k].toNat : Nat) : Int) ≠ 45 := by omega
          by_cases h45 : (bl s).getD 0 0 = 45
          · have h1 : 1 ≤ k := by
              rcases Nat.eq_zero_or_pos k with e | e
              · exact absurd ⟨e, h45⟩ hsg
              · exact e
            have HS : Hid (evalW (bl s) (k + 1) = 10 * evalW (bl s) k - (((s[k].toNat : Nat) : Int) - 48)) := by
              unfold Hid
              rw [HAT.out]
              exact evalW_neg _ k h45 h1 (by rw [HLEN.out]; exact ha)
            have he : ((s[0].toNat : Nat) : Int) = 45 := by rw [HAZ.out, h45]; rfl
            clear HAT HAZ hsg h45 HK0
            generalize hN : s[k].toNat = N at *
            go_wp2
            go_round
            case rel => exact ⟨k + 1, _, by omega, by go_num, rfl, HX.out.neg (d := (N : Int) - 48) rfl HS.out⟩
            case measure => simp [intOf]; omega
          · have HS : Hid (evalW (bl s) (k + 1) = 10 * evalW (bl s) k + (((s[k].toNat : Nat) : Int) - 48)) := by
              unfold Hid
              rw [HAT.out]
              exact evalW_pos _ k h45 (by rw [HLEN.out]; exact ha)
            have he : ((s[0].toNat : Nat) : Int) ≠ 45 := by
              rw [HAZ.out]
              intro c
              exact h45 (UInt8.toNat_inj.1 (by show _ = 45; omega))
            clear HAT HAZ hsg h45 HK0
            generalize hN : s[k].toNat = N at *
            go_wp2
            go_round
            case rel => exact ⟨k + 1, _, by omega, by go_num, rfl, HX.out.pos (d := (N : Int) - 48) rfl HS.out⟩
            case measure => simp [intOf]; omega
        · have HNO : Hid (numOf (bl s) = none) := by
            refine bad_sign (i := k) (by rw [HLEN.out]; exact ha) ?_ hsg
            rw [← HAT.out]
            omega
          clear hsg HAZ HAT
          by_cases e45 : s[k].toNat = 45
          · have h1 : 1 ≤ k := by
              rcases Nat.eq_zero_or_pos k with e | e
              · exact absurd (by omega) (HK0.out e)
              · exact e
            have he : ((s[k].toNat : Nat) : Int) = 45 := by omega
            clear HK0 e45 hdg
            go_wp2
            go_ret2
            exact ⟨0, by rw [HNO.out]; rfl, wholeA_none HNO.out, Below.refl _ _⟩
          · have he : ((s[k].toNat : Nat) : Int) ≠ 45 := by omega
            by_cases c : s[k].toNat < 48
            · clear HK0 e45 hdg
              go_wp2
              go_ret2
              exact ⟨0, by rw [HNO.out]; rfl, wholeA_none HNO.out, Below.refl _ _⟩
            · have c2 : 57 < s[k].toNat := by omega
              clear HK0 e45 hdg
              go_wp2
              go_ret2
              exact ⟨0, by rw [HNO.out]; rfl, wholeA_none HNO.out, Below.refl _ _⟩
    · have hx := HX.out.1
      have H : Hid ((intD x = bl s ∧ numOf (bl s) = some x) ∨ (intD x ≠ bl s ∧ numOf (bl s) = none)) := by
        by_cases h21 : s.size < 21
        · obtain rfl : k = s.size := by omega
          have h2 := HX.out.2
          rw [← HLEN.out, evalW_all] at h2
          rcases read_iff hx h2 with ⟨a, b⟩ | ⟨a, b⟩
          · exact .inl ⟨b, a⟩
          · exact .inr ⟨b, a⟩
        · refine .inr ⟨fun e => ?_, too_long (by rw [HLEN.out]; omega)⟩
          have := (length_intD x hx).2
          rw [e, HLEN.out] at this
          omega
      have hend' : (decide (((k : Nat) : Int) < ((s.size : Nat) : Int)) && decide (((s.size : Nat) : Int) < 21)) = false := by
        rw [Bool.and_eq_false_iff, decide_eq_false_iff_not, decide_eq_false_iff_not]
        by_cases e : k < s.size
        · exact .inr (fun c => hend ⟨e, by omega⟩)
        · exact .inl (by omega)
      rcases H.out with ⟨e, hn⟩ | ⟨e, hn⟩
      · have hm := text_eq e
        have HN : Hid (numOf (bl s) = some x) := hn
        clear hn e HX H
        by_cases c : k < s.size
        · have c2 : ¬ s.size < 21 := fun h => hend ⟨c, h⟩
          go_wp2_with fail
          refine (digitsC x hx w).mono ?_
          rintro e w1 ⟨rfl, b1⟩
          rw [hm]
          have hq : (s.toList == s.toList) = true := by rw [beq_iff_eq]
          go_wp2
          go_ret2
          exact ⟨x, by rw [HN.out]; rfl, wholeA_some HN.out, b1⟩
        · go_wp2_with fail
          refine (digitsC x hx w).mono ?_
          rintro e w1 ⟨rfl, b1⟩
          rw [hm]
          have hq : (s.toList == s.toList) = true := by rw [beq_iff_eq]
          go_wp2
          go_ret2
          exact ⟨x, by rw [HN.out]; rfl, wholeA_some HN.out, b1⟩
      · have HN : Hid (numOf (bl s) = none) := hn
        have hq : ((mk (intD x)).toList == s.toList) = false := texts_part (fun c => e (by rw [← bl_mk' (intD x), c]))
        clear hn e HX H
        by_cases c : k < s.size
        · have c2 : ¬ s.size < 21 := fun h => hend ⟨c, h⟩
          go_wp2_with fail
          refine (digitsC x hx w).mono ?_
          rintro e w1 ⟨rfl, b1⟩
          go_wp2
          go_ret2
          exact ⟨x, by rw [HN.out]; rfl, wholeA_none HN.out, b1⟩
        · go_wp2_with fail
          refine (digitsC x hx w).mono ?_
          rintro e w1 ⟨rfl, b1⟩
          go_wp2
          go_ret2
          exact ⟨x, by rw [HN.out]; rfl, wholeA_none HN.out, b1⟩
end Go.Proofs.YtejgjipmnmfkcaaGreatDoor.Val
