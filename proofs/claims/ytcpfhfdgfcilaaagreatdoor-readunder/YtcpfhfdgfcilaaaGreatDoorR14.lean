/-
  Several texts in one: A row's value, by the document: plain whole numbers, truths, bytes: contracts. · What is read of an array that may be is a value that fits its node: the whole.
-/
import Derived.Test.YtcpfhfdgfcilaaaGreatDoorR13
import Derived.Maps.AppendAt
import Derived.OneCell
import Derived.Laws.OwnMore
import Derived.WalkKit
import Derived.Test.YtcpfhfdgfcilaaaGreatDoorR01
import Derived.Test.YtcpfhfdgfcilaaaGreatDoorR02
import Derived.Test.YtcpfhfdgfcilaaaGreatDoorR03
import Derived.Test.YtcpfhfdgfcilaaaGreatDoorR04
import Derived.Test.YtcpfhfdgfcilaaaGreatDoorR12
set_option linter.unusedVariables false
set_option linter.unusedSimpArgs false
namespace Go.Proofs.YtcpfhfdgfcilaaaGreatDoor.Arr
open Go.ChangeShapes Go.WideShapes Go.ChangeAt Go.RowKit
open Tree Val

/-- What the walk over a plain row asks of whole numbers, truths and bytes. -/
theorem at_int {ns : List Nd} {n : Nat} {a : Arr} {rec : Nat → Arr → Bool} (hh : Head ns n a) (hp : plainB rec ns n a = true) (hk : (nd ns n).kind = 0) {row : Nat} (hr : (row : Int) < a.length) : 8 * (row + a.offset.toNat) + 8 ≤ a.data.size := by
  unfold plainB at hp
  rw [if_pos hk] at hp
  simp only [Bool.and_eq_true, decide_eq_true_eq] at hp
  have := hp.2
  have := hh.off
  unfold rowsOf at *
  omega
theorem at_bool {ns : List Nd} {n : Nat} {a : Arr} {rec : Nat → Arr → Bool} (hh : Head ns n a) (hp : plainB rec ns n a = true) (hk : (nd ns n).kind = 1) {row : Nat} (hr : (row : Int) < a.length) : row + a.offset.toNat < 8 * a.data.size := by
  unfold plainB at hp
  rw [if_neg (by omega), if_pos hk] at hp
  simp only [Bool.and_eq_true, decide_eq_true_eq] at hp
  have := hp.2
  have := hh.off
  unfold rowsOf at *
  omega
theorem at_bytes {ns : List Nd} {n : Nat} {a : Arr} {rec : Nat → Arr → Bool} (hh : Head ns n a) (hp : plainB rec ns n a = true) (hk : (nd ns n).kind = 2) {row : Nat} (hr : (row : Int) < a.length) : has4 a.ends (row + a.offset.toNat) = true ∧ has4 a.ends (row + a.offset.toNat + 1) = true ∧ endAt a.ends (row + a.offset.toNat) ≤ endAt a.ends (row + a.offset.toNat + 1) ∧ endAt a.ends (row + a.offset.toNat + 1) ≤ a.data.size := by
  unfold plainB at hp
  rw [if_neg (by omega), if_neg (by omega), if_pos hk] at hp
  rw [Bool.and_eq_true] at hp
  have ho := hh.off
  have hE := endsB_ends hp.2
  have h2 := hE.last (row + a.offset.toNat + 1) (by unfold rowsOf; omega)
  exact ⟨(has4_iff _ _).2 ⟨hE.size _ (by unfold rowsOf; omega), hE.most _ (by unfold rowsOf; omega)⟩, (has4_iff _ _).2 ⟨hE.size _ (by unfold rowsOf; omega), hE.most _ (by unfold rowsOf; omega)⟩, hE.mono (by omega) (by unfold rowsOf; omega), by omega⟩
end Go.Proofs.YtcpfhfdgfcilaaaGreatDoor.Arr
namespace Go.Proofs.YtcpfhfdgfcilaaaGreatDoor.Arr
open Tree Val Sums

/-- A nest's row: nothing, or what stands within. -/
theorem list_row {ns : List Nd} {n f : Nat} {a : Arr} (hk : (nd ns n).kind = 3) (hl : a.layout = 0) (row : Nat) :
    rowF ns (f + 1) n a row = if there a (row + a.offset.toNat) = false then nullM else listM ((List.range (endAt a.ends (row + a.offset.toNat + 1) - endAt a.ends (row + a.offset.toNat))).map fun j => rowF ns f (kAt ns n 0) (kidAt a 0) (endAt a.ends (row + a.offset.toNat) + j)) := by
  rw [rowF]
  by_cases ht : there a (row + a.offset.toNat) = false
  · rw [if_pos ht, if_pos ht]
  · rw [if_neg ht, if_neg ht, if_pos hl, plainRow, if_neg (by rw [hk]; decide), if_neg (by rw [hk]; decide), if_neg (by rw [hk]; decide), if_pos hk]
theorem struct_row {ns : List Nd} {n f : Nat} {a : Arr} (hk : (nd ns n).kind = 4) (hl : a.layout = 0) (row : Nat) :
    rowF ns (f + 1) n a row = if there a (row + a.offset.toNat) = false then nullM else structM ((List.range (kids ns n).length).map fun i => rowF ns f (kAt ns n i) (kidAt a i) (row + a.offset.toNat)) := by
  rw [rowF]
  by_cases ht : there a (row + a.offset.toNat) = false
  · rw [if_pos ht, if_pos ht]
  · rw [if_neg ht, if_neg ht, if_pos hl, plainRow, if_neg (by rw [hk]; decide), if_neg (by rw [hk]; decide), if_neg (by rw [hk]; decide), if_neg (by rw [hk]; decide)]
theorem list_sum {ns : List Nd} {n f : Nat} {a : Arr} (hk : (nd ns n).kind = 3) (hl : a.layout = 0) (hh : Head ns n a) (hL : IsList ns f n a) : ∀ L : Nat, (L : Int) ≤ a.length →
    sumTo (fun row => (rowF ns (f + 1) n a row).length) L + sumTo (fun j => (rowF ns f (kAt ns n 0) (kidAt a 0) j).length) (endAt a.ends a.offset.toNat) ≤ 2 * L + sumTo (fun j => (rowF ns f (kAt ns n 0) (kidAt a 0) j).length) (endAt a.ends (a.offset.toNat + L)) := by
  have ho := hh.off
  intro L
  induction L with
  | zero => intro _; exact Nat.le_refl _
  | succ L ih =>
    intro h
    have h1 := ih (by omega)
    have hu := hL.ends.up (L + a.offset.toNat) (by unfold rowsOf; omega)
    rw [sumTo, list_row hk hl]
    have hs := sumTo_shift (fun j => (rowF ns f (kAt ns n 0) (kidAt a 0) j).length) (endAt a.ends (L + a.offset.toNat)) (endAt a.ends (L + a.offset.toNat + 1) - endAt a.ends (L + a.offset.toNat))
    rw [show endAt a.ends (L + a.offset.toNat) + (endAt a.ends (L + a.offset.toNat + 1) - endAt a.ends (L + a.offset.toNat)) = endAt a.ends (L + a.offset.toNat + 1) from by omega] at hs
    have hmo := sumTo_mono (fun j => (rowF ns f (kAt ns n 0) (kidAt a 0) j).length) hu
    rw [show a.offset.toNat + (L + 1) = L + a.offset.toNat + 1 from by omega]
    rw [show a.offset.toNat + L = L + a.offset.toNat from by omega] at h1
    split
    · have : nullM.length = 1 := rfl
      omega
    · rw [length_listM, length_flat]
      omega
/-- Each row is a value, as deep as its node allows; all rows together are no longer than that. -/
theorem rows_ok {ns : List Nd} (hm : May ns) : ∀ (f n : Nat) (a : Arr), n < ns.length → mayF ns f n a = true →
    (∀ row : Nat, (row : Int) < a.length → val (4 - depth ns n) (rowF ns f n a row) = some (rowF ns f n a row).length) ∧ sumTo (fun row => (rowF ns f n a row).length) a.length.toNat ≤ hang 1408 ns n := by
  intro f
  induction f with
  | zero => intro n a _ h; cases h
  | succ f ih =>
    intro n a hn h
    have hh := (mayF_cases h).1
    have ho := hh.off
    have hr := hh.rows
    have hle := hh.len
    have hhang := hang_kids hm 1408 hn
    by_cases hleaf : (nd ns n).kind = 0 ∨ (nd ns n).kind = 1 ∨ (nd ns n).kind = 2
    · have hl := leaf_row hleaf (f + 1) a h
      refine ⟨fun row hr => (hl row hr _).2.1, ?_⟩
      have h1 : sumTo (fun row => (rowF ns (f + 1) n a row).length) a.length.toNat ≤ sumTo (fun _ => 22) a.length.toNat := sumTo_le _ fun j hj => (hl j (by omega) 0).1
      rw [sumTo_const] at h1
      omega
    · have hk : (nd ns n).kind = 3 ∨ (nd ns n).kind = 4 := by have := kinds hm hn; omega
      obtain ⟨_, hlay, hp⟩ := nest_plain hk h
      rcases hk with hk | hk
      · have hL := list_of hk hp
        have h1k : 0 < (kids ns n).length := by have := hm.list n hn hk; omega
        obtain ⟨k1, k2, k3⟩ := kid_of hm h1k
        obtain ⟨i1, i2⟩ := ih _ _ k2 hL.may
        have hd := hm.depth_le k2
        refine ⟨fun row hrow => ?_, ?_⟩
        · rw [list_row hk hlay]
          split
          · exact val_null _
          · rw [show 4 - depth ns n = (4 - depth ns (kAt ns n 0)) + 1 from by omega]
            refine val_list _ _ fun v hv => ?_
            obtain ⟨j, hj, rfl⟩ := List.mem_map.1 hv
            rw [List.mem_range] at hj
            refine i1 _ ?_
            have := hL.ends.last (row + a.offset.toNat + 1) (by unfold rowsOf; omega)
            omega
        · have hs := list_sum hk hlay hh hL a.length.toNat (by omega)
          have hlast := hL.ends.last (a.offset.toNat + a.length.toNat) (by unfold rowsOf; omega)
          have hmo := sumTo_mono (fun j => (rowF ns f (kAt ns n 0) (kidAt a 0) j).length) (show endAt a.ends (a.offset.toNat + a.length.toNat) ≤ (kidAt a 0).length.toNat from by omega)
          have ht : hang 1408 ns (kAt ns n 0) ≤ ((kids ns n).map (hang 1408 ns)).sum := by
            rw [sum_kAt]
            exact sumTo_term (fun i => hang 1408 ns (kAt ns n i)) h1k
          omega
      · have hS := struct_of hk hp
        have hkid : ∀ i, i < (kids ns n).length → (∀ row : Nat, (row : Int) < (kidAt a i).length → val (4 - depth ns (kAt ns n i)) (rowF ns f (kAt ns n i) (kidAt a i) row) = some (rowF ns f (kAt ns n i) (kidAt a i) row).length) ∧ sumTo (fun row => (rowF ns f (kAt ns n i) (kidAt a i) row).length) (kidAt a i).length.toNat ≤ hang 1408 ns (kAt ns n i) :=
          fun i hi => ih _ _ (kid_of hm hi).2.1 (hS.may i hi)
        have h1k : 0 < (kids ns n).length := by have := hm.struct n hn hk; omega
        refine ⟨fun row hrow => ?_, ?_⟩
        · rw [struct_row hk hlay]
          split
          · exact val_null _
          · have hd := hm.depth_le (kid_of hm h1k).2.1
            have hd2 := (kid_of hm h1k).2.2
            rw [show 4 - depth ns n = (4 - (depth ns n + 1)) + 1 from by omega]
            refine val_struct _ _ fun v hv => ?_
            obtain ⟨i, hi, rfl⟩ := List.mem_map.1 hv
            rw [List.mem_range] at hi
            have := (hkid i hi).1 (row + a.offset.toNat) (by have := hS.rows i hi; unfold rowsOf at this; omega)
            rw [(kid_of hm hi).2.2] at this
            exact this
        · have h1 : sumTo (fun row => (rowF ns (f + 1) n a row).length) a.length.toNat ≤ sumTo (fun row => 2 + sumTo (fun i => (rowF ns f (kAt ns n i) (kidAt a i) (a.offset.toNat + row)).length) (kids ns n).length) a.length.toNat := by
            refine sumTo_le _ fun row hrow => ?_
            show (rowF ns (f + 1) n a row).length ≤ _
            rw [struct_row hk hlay, show row + a.offset.toNat = a.offset.toNat + row from by omega]
            split
            · have : nullM.length = 1 := rfl
              omega
            · rw [length_structM, length_flat]
              omega
          rw [sumTo_add (fun _ => 2), sumTo_const, sumTo_swap] at h1
          have h2 : sumTo (fun j => sumTo (fun i => (rowF ns f (kAt ns n j) (kidAt a j) (a.offset.toNat + i)).length) a.length.toNat) (kids ns n).length ≤ sumTo (fun i => hang 1408 ns (kAt ns n i)) (kids ns n).length := by
            refine sumTo_le _ fun i hi => ?_
            have hs := sumTo_shift (fun r => (rowF ns f (kAt ns n i) (kidAt a i) r).length) a.offset.toNat a.length.toNat
            have hrows := hS.rows i hi
            unfold rowsOf at hrows
            have hmo := sumTo_mono (fun r => (rowF ns f (kAt ns n i) (kidAt a i) r).length) (show a.offset.toNat + a.length.toNat ≤ (kidAt a i).length.toNat from by omega)
            have := (hkid i hi).2
            show sumTo (fun j => (rowF ns f (kAt ns n i) (kidAt a i) (a.offset.toNat + j)).length) a.length.toNat ≤ hang 1408 ns (kAt ns n i)
            omega
          rw [← sum_kAt] at h2
          omega
theorem row_short {ns : List Nd} (hm : May ns) {f n : Nat} {a : Arr} (hn : n < ns.length) (h : mayF ns f n a = true) {row : Nat} (hr : (row : Int) < a.length) : (rowF ns f n a row).length ≤ 11264 := by
  have h1 := (rows_ok hm f n a hn h).2
  have h2 := sumTo_term (fun row => (rowF ns f n a row).length) (show row < a.length.toNat from by omega)
  have h3 := hang_le hm 1408 hn
  omega
/-- A text of bytes as a string. -/
def mk (l : List UInt8) : ByteArray := ⟨l.toArray⟩
end Go.Proofs.YtcpfhfdgfcilaaaGreatDoor.Arr
