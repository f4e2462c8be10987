/-
  What every program answers that is one: awake: contract.
-/
import Derived.Test.YtejgjipmnmfkcaaGreatDoorTree
import Derived.Test.YtejgjipmnmfkcaaGreatDoorOpenTexts
import Derived.Test.YtejgjipmnmfkcaaGreatDoorMem
import Derived.Test.YtejgjipmnmfkcaaGreatDoorMay
import Derived.Test.YtejgjipmnmfkcaaGreatDoorWhole
import Derived.Test.YtejgjipmnmfkcaaGreatDoorValTab
import Derived.Test.YtejgjipmnmfkcaaGreatDoorHome
import Derived.Test.YtejgjipmnmfkcaaGreatDoorTk
import Derived.Test.YtejgjipmnmfkcaaGreatDoorRow
import Derived.Test.YtejgjipmnmfkcaaGreatDoorPartsC
import Derived.Test.YtejgjipmnmfkcaaGreatDoorFitsZ
import Derived.Test.YtejgjipmnmfkcaaGreatDoorMake
namespace Go.Proofs.YtejgjipmnmfkcaaGreatDoor.Val
open Go.ChangeShapes Go.WideShapes Go.ChangeAt Go.RowKit
open Texts
open Tree (Nd nd Lies IsT cell_later boxed)

/-- Two texts, three texts, written down. -/
theorem tx_two (w : World) (a b : ByteArray) : IsTx (w.alloc (.cells #[.string a, .string b] 9)) (some ⟨w.heap.size, 0, none⟩) [a, b] := by
  refine ⟨by show (2 : Nat) ≤ _; unfold maxLen; omega, .inr ⟨_, rfl, fun i hi => ?_⟩⟩
  match i, hi with
  | 0, _ => simp [Addr.add]
  | 1, _ => simp [Addr.add]
theorem tx_three (w : World) (a b c : ByteArray) : IsTx (w.alloc (.cells #[.string a, .string b, .string c] 9)) (some ⟨w.heap.size, 0, none⟩) [a, b, c] := by
  refine ⟨by show (3 : Nat) ≤ _; unfold maxLen; omega, .inr ⟨_, rfl, fun i hi => ?_⟩⟩
  match i, hi with
  | 0, _ => simp [Addr.add]
  | 1, _ => simp [Addr.add]
  | 2, _ => simp [Addr.add]
/-- A leaf alone. -/
theorem one_node (w : World) (n : Nd) : IsT (w.alloc (.cells #[.int .i64 n.kind, .int .i64 n.par, .bool n.null] 59)) (some ⟨w.heap.size, 0, none⟩) [n] := by
  refine ⟨by show (1 : Nat) ≤ _; unfold maxLen; omega, .inr ⟨_, rfl, ?_⟩⟩
  constructor
  all_goals
    intro i hi
    obtain rfl : i = 0 := by simpa using hi
    simp [Addr.add]
theorem aw_int (w : World) (hw : Home w) : Calls Tryz.prog 12 #[.int .i64 (-12)] w fun r w' => r = .returned (.string ⟨#[105, 45, 49, 50, 59]⟩) ∧ Below w.heap.size w w' := by
  have := intC (-12) ⟨by decide, by decide⟩ w hw
  rw [show mk (intM (-12)) = ⟨#[105, 45, 49, 50, 59]⟩ from by decide +kernel] at this
  exact this
theorem aw_null (w : World) : Calls Tryz.prog 11 #[] w fun r w' => r = .returned (.string ⟨#[110]⟩) ∧ w' = w := nullC w
theorem aw_bool (w : World) : Calls Tryz.prog 14 #[.bool true] w fun r w' => r = .returned (.string ⟨#[116]⟩) ∧ w' = w := boolC true w
theorem aw_list (b : Nat) (w : World) (h : IsTx w (some ⟨b, 0, none⟩) [⟨#[110]⟩, ⟨#[116]⟩]) : Calls Tryz.prog 18 #[.slice (some ⟨b, 0, none⟩) 2 2] w fun r w' => r = .returned (.string ⟨#[91, 110, 116, 93]⟩) ∧ Below w.heap.size w w' := by
  have := listC (some ⟨b, 0, none⟩) 2 [⟨#[110]⟩, ⟨#[116]⟩] (Nat.le_refl _) (by decide +kernel) (by decide) w h
  rw [show mk (listM ([⟨#[110]⟩, ⟨#[116]⟩].map bl)) = ⟨#[91, 110, 116, 93]⟩ from by decide +kernel] at this
  exact this
theorem aw_bytes (w : World) (hw : Home w) : Calls Tryz.prog 16 #[.string ⟨#[97, 59]⟩] w fun r w' => r = .returned (.string ⟨#[115, 50, 58, 97, 59]⟩) ∧ Below w.heap.size w w' := by
  have := bytesC ⟨#[97, 59]⟩ (by decide) w hw
  rw [show mk (bytesM (bl ⟨#[97, 59]⟩)) = ⟨#[115, 50, 58, 97, 59]⟩ from by decide +kernel] at this
  exact this
def awTexts : List ByteArray := [⟨#[105, 45, 49, 50, 59]⟩, ⟨#[91, 110, 116, 93]⟩, ⟨#[115, 50, 58, 97, 59]⟩]
theorem aw_struct (b : Nat) (w : World) (h : IsTx w (some ⟨b, 0, none⟩) awTexts) : Calls Tryz.prog 20 #[.slice (some ⟨b, 0, none⟩) 3 3] w fun r w' => r = .returned (.string ⟨#[123, 105, 45, 49, 50, 59, 91, 110, 116, 93, 115, 50, 58, 97, 59, 125]⟩) ∧ Below w.heap.size w w' := by
  have := structC (some ⟨b, 0, none⟩) 3 awTexts (Nat.le_refl _) (by decide +kernel) (by decide) w h
  rw [show mk (structM (awTexts.map bl)) = ⟨#[123, 105, 45, 49, 50, 59, 91, 110, 116, 93, 115, 50, 58, 97, 59, 125]⟩ from by decide +kernel] at this
  exact this
theorem aw_parts (w : World) (hw : Home w) : Calls Tryz.prog 6 #[.string ⟨#[123, 105, 45, 49, 50, 59, 91, 110, 116, 93, 115, 50, 58, 97, 59, 125]⟩] w fun r w' => ∃ o cap, r = .returned (.tuple #[.int .i64 4, .slice o 3 cap, .int .i64 0]) ∧ IsTx w' o awTexts ∧ Below w.heap.size w w' := by
  refine (partsC _ 4 awTexts 0 (by decide) (.inl ⟨awake_parts, rfl⟩) w hw).mono ?_
  rintro e w' ⟨o, cap, rfl, hown, hb⟩
  exact ⟨o, cap, rfl, own_texts hown, hb⟩
theorem aw_none (w : World) (hw : Home w) : Calls Tryz.prog 6 #[.string ⟨#[105, 48, 49, 59]⟩] w fun r w' => ∃ o cap, r = .returned (.tuple #[.int .i64 0, .slice o 0 cap, .int .i64 700]) ∧ Below w.heap.size w w' := by
  refine (partsC _ 0 [] 700 (by decide) (.inr ⟨awake_none, rfl, rfl, rfl⟩) w hw).mono ?_
  rintro e w' ⟨o, cap, rfl, _, hb⟩
  exact ⟨o, cap, rfl, hb⟩
theorem aw_same (o : Option Addr) (c b : Nat) (w : World) (ho : IsTx w o awTexts) (hp : IsTx w (some ⟨b, 0, none⟩) awTexts) : Calls Tryz.prog 8 #[.slice o 3 c, .slice (some ⟨b, 0, none⟩) 3 3] w fun r w' => r = .returned (.bool true) ∧ Below w.heap.size w w' :=
  sameTexts o (some ⟨b, 0, none⟩) c 3 awTexts (by decide) w ho hp
def awType : List Nd := [⟨0, -1, false⟩]
theorem aw_fits (at' : Int) (v : ByteArray) (R : Bool) (hv : v.size ≤ 9223372036854775807) (hR : fitsZ awType at' v = R) (b : Nat) (w : World) (hw : Home w) (h : IsT w (some ⟨b, 0, none⟩) awType) : Calls Tryz.prog 22 #[.agg #[.slice (some ⟨b, 0, none⟩) 1 1], .int .i64 at', .string v] w fun r w' => r = .returned (.bool R) ∧ Below w.heap.size w w' := by
  have := fitsC (some ⟨b, 0, none⟩) 1 awType at' v hv w h hw
  rw [hR] at this
  exact this
def aw3 (w : World) : World := ((w.alloc (.cells #[.int .i64 0, .int .i64 (-1), .bool false] 59)).alloc (.cells #[.slice (some ⟨w.heap.size, 0, none⟩) 1 1] 25)).alloc (.cells #[.string ⟨#[105, 45, 49, 50, 59]⟩, .string ⟨#[91, 110, 116, 93]⟩, .string ⟨#[115, 50, 58, 97, 59]⟩] 9)
theorem aw3_is (w : World) : IsTx (aw3 w) (some ⟨w.heap.size + 1 + 1, 0, none⟩) awTexts ∧ IsT (aw3 w) (some ⟨w.heap.size, 0, none⟩) awType ∧ (aw3 w).cell? ⟨w.heap.size + 1, 0, none⟩ = some (.slice (some ⟨w.heap.size, 0, none⟩) 1 1) ∧ Below w.heap.size w (aw3 w) := by
  have h1 := one_node w ⟨0, -1, false⟩
  obtain ⟨u, hu⟩ : ∃ u, w.alloc (.cells #[.int .i64 0, .int .i64 (-1), .bool false] 59) = u := ⟨_, rfl⟩
  have hus : u.heap.size = w.heap.size + 1 := by rw [← hu]; simp
  have hub : Below w.heap.size w u := by rw [← hu]; exact (Below.refl _ _).alloc (Nat.le_refl _) _
  replace h1 : IsT u (some ⟨w.heap.size, 0, none⟩) awType := by rw [← hu]; exact h1
  obtain ⟨v, hv, hvs, hvc, hvb⟩ := boxed u (.slice (some ⟨w.heap.size, 0, none⟩) 1 1) 25
  have hvz : v.heap.size = w.heap.size + 1 + 1 := by rw [← hv]; simp [hus]
  rw [hus] at hvc
  have h3 := tx_three v ⟨#[105, 45, 49, 50, 59]⟩ ⟨#[91, 110, 116, 93]⟩ ⟨#[115, 50, 58, 97, 59]⟩
  have hb : Below v.heap.size v (v.alloc (.cells #[.string ⟨#[105, 45, 49, 50, 59]⟩, .string ⟨#[91, 110, 116, 93]⟩, .string ⟨#[115, 50, 58, 97, 59]⟩] 9)) := (Below.refl _ _).alloc (Nat.le_refl _) _
  rw [hvz] at h3
  unfold aw3
  rw [hu, hv]
  exact ⟨h3, (h1.later hvb).later hb, cell_later hb hvc, bel2 (bel2 hub hvb) hb⟩
set_option maxRecDepth 20000 in
set_option maxHeartbeats 3200000 in
theorem awake (w : World) (hw : Hid (Home w)) : Calls Tryz.prog 26 #[] w fun r w' => r = .returned (.bool true) ∧ Below w.heap.size w w' := by
  go_enter Tryz.func26, Tryz.ntmps26
  go_wp2_with fail
  refine (aw_int w hw.out).mono ?_
  rintro e w1 ⟨rfl, b1⟩
  have B1 : Hid (Below w.heap.size w w1) := b1
  clear b1
  go_wp2_with fail
  refine (aw_null _).mono ?_
  rintro e wx ⟨rfl, rfl⟩
  go_wp2_with fail
  refine (aw_bool _).mono ?_
  rintro e wx ⟨rfl, rfl⟩
  go_wp2_with fail
  refine (aw_list _ _ (tx_two _ _ _)).mono ?_
  rintro e w2 ⟨rfl, b2⟩
  have B2 : Hid (Below w.heap.size w w2) := bel2 (bel2 B1.out ((Below.refl _ _).alloc (Nat.le_refl _) _)) b2
  clear b2
  go_wp2_with fail
  refine (aw_bytes w2 (hw.out.later B2.out)).mono ?_
  rintro e w3 ⟨rfl, b3⟩
  have B3 : Hid (Below w.heap.size w w3) := bel2 B2.out b3
  clear b3
  go_wp2_with fail
  refine (aw_struct _ _ (tx_three w3 _ _ _)).mono ?_
  rintro e w4 ⟨rfl, b4⟩
  have B4 : Hid (Below w.heap.size w w4) := bel2 (bel2 B3.out ((Below.refl _ _).alloc (Nat.le_refl _) _)) b4
  clear b4
  go_wp2_with fail
  refine (aw_parts w4 (hw.out.later B4.out)).mono ?_
  rintro e w5 ⟨o5, c5, rfl, hT5, b5⟩
  have HT5 : Hid (IsTx w5 o5 awTexts) := hT5
  have B5 : Hid (Below w.heap.size w w5) := bel2 B4.out b5
  clear b5 hT5
  go_wp2_with fail
  refine (aw_none w5 (hw.out.later B5.out)).mono ?_
  rintro e w6 ⟨o6, c6, rfl, b6⟩
  have HT6 : Hid (IsTx w6 o5 awTexts) := HT5.out.later b6
  have B6 : Hid (Below w.heap.size w w6) := bel2 B5.out b6
  clear b6
  go_wp2_with fail
  show Calls Tryz.prog 8 _ (aw3 w6) _
  obtain ⟨a1, a2, a3, a4⟩ := aw3_is w6
  have HA2 : Hid (IsT (aw3 w6) (some ⟨w6.heap.size, 0, none⟩) awType) := a2
  have HA3 : Hid ((aw3 w6).cell? ⟨w6.heap.size + 1, 0, none⟩ = some (.slice (some ⟨w6.heap.size, 0, none⟩) 1 1)) := a3
  have B7 : Hid (Below w.heap.size w (aw3 w6)) := bel2 B6.out a4
  refine (aw_same o5 c5 _ (aw3 w6) (HT6.out.later a4) a1).mono ?_
  rintro e w8 ⟨rfl, b8⟩
  have c8 := cell_later b8 HA3.out
  have HA8 : Hid (IsT w8 (some ⟨w6.heap.size, 0, none⟩) awType) := HA2.out.later b8
  have B8 : Hid (Below w.heap.size w w8) := bel2 B7.out b8
  clear b8 a1 a2 a3 a4
  go_wp2_with fail
  refine (numC _ _).mono ?_
  rintro e wx2 ⟨rfl, rfl⟩
  go_wp2_with fail
  refine (numC _ _).mono ?_
  rintro e wx3 ⟨rfl, rfl⟩
  go_wp2_with fail
  refine (aw_fits 0 ⟨#[105, 53, 59]⟩ true (by decide) awake_fits.1 _ _ (hw.out.later B8.out) HA8.out).mono ?_
  rintro e w9 ⟨rfl, b9⟩
  have c9 := cell_later b9 c8
  have HA9 : Hid (IsT w9 (some ⟨w6.heap.size, 0, none⟩) awType) := HA8.out.later b9
  have B9 : Hid (Below w.heap.size w w9) := bel2 B8.out b9
  clear b9 c8
  go_wp2_with fail
  refine (aw_fits 0 ⟨#[110]⟩ false (by decide) awake_fits.2.1 _ _ (hw.out.later B9.out) HA9.out).mono ?_
  rintro e w10 ⟨rfl, b10⟩
  have c10 := cell_later b10 c9
  have HA10 : Hid (IsT w10 (some ⟨w6.heap.size, 0, none⟩) awType) := HA9.out.later b10
  have B10 : Hid (Below w.heap.size w w10) := bel2 B9.out b10
  clear b10 c9
  go_wp2_with fail
  refine (aw_fits 1 ⟨#[105, 53, 59]⟩ false (by decide) awake_fits.2.2 _ _ (hw.out.later B10.out) HA10.out).mono ?_
  rintro e w11 ⟨rfl, b11⟩
  have B11 : Hid (Below w.heap.size w w11) := bel2 B10.out b11
  clear b11 c10
  go_wp2
  go_ret
  exact ⟨rfl, B11.out⟩
end Go.Proofs.YtejgjipmnmfkcaaGreatDoor.Val
