/-
  What bits.Copy, its closure and the law of all programs, awake, compute: contracts.
-/
import Derived.Test.YtondhjfpfloejaaRows
import Derived.Test.YtondhjfpfloejaaPlain
import Derived.Test.YtondhjfpfloejaaBit
import Derived.Test.YtondhjfpfloejaaTurn
import Derived.WalkKit
import Derived.ProofKit
import Derived.OpenShut
import Derived.Below
import Derived.Laws.IdiomStrings
namespace Go.Proofs.Ytondhjfpfloejaa.Bit
open Go.ChangeShapes Go.WideShapes Go.ChangeAt Go.RowKit

theorem info5 : (Try.prog.info? 5).map (fun i => (i.zero, i.size, i.bytes)) = some (some (.int .u8 0), 1, 1) := by kernel_rfl

/-- So many zero bytes, as cells. -/
def zeros (n : Nat) : Array Value := madeCells (Value.cells (.int .u8 0)) n
theorem zeros_at (n i : Nat) (h : i < n) : (zeros n)[i]? = some (.int .u8 0) := by
  unfold zeros
  rw [← Array.getElem?_toList, show (Value.cells (.int .u8 0)) = #[.int .u8 0] from rfl, toList_madeCells_one, List.getElem?_replicate, if_pos h]
theorem make_bytes (n : Nat) (h : n ≤ 140737488351232) (w : World) :
    (Instr.makeSlice 46 (.int .u64 (n : Int)) (.int .u64 (n : Int))).run Try.prog w = .ok (.slice (some ⟨w.heap.size, 0, none⟩) n n) (w.alloc (.cells (zeros n) 5)) := by
  obtain ⟨i, hi, hz0, hz1, hz2⟩ := info_parts info5
  have := run_make (P := Try.prog) w 46 5 i (.int .u8 0) Try.underlying46 hi hz0 .u64 .u64 n n (by omega) (Int.le_refl _) (by rw [hz2]; omega) (by omega)
  rw [this, hz1, Nat.mul_one, Int.toNat_natCast]
  rfl
theorem Bytes.zeros (w : World) (n : Nat) : Bytes (w.alloc (.cells (zeros n) 5)) w.heap.size (List.replicate n 0) := by
  constructor
  · intro i hi
    rw [List.length_replicate] at hi
    rw [World.cell?_alloc_mark, zeros_at n i hi, List.getD_eq_getElem?_getD, List.getElem?_replicate, if_pos hi]
    rfl
  · intro i _
    rw [World.frozen?_alloc_mark]
    simp

set_option maxHeartbeats 400000 in
theorem copy1 (b g L c : Nat) (l : List UInt8) (hl : L = l.length) (x : Int) (on : Bool) (w : World) (h0 : 0 ≤ x) (h1 : x < 8 * (l.length : Int)) (hL : l.length ≤ 140737488351232) (hb : Bytes w g l)
    (hc : w.cell? ⟨b, 0, none⟩ = some (.slice (some ⟨g, 0, none⟩) L c)) :
    Calls Try.prog 27 #[.int .u64 x, .bool on, .pointer (some ⟨b, 0, none⟩)] w fun r w' => r = .returned (.tuple #[]) ∧
      w' = w.setCell ⟨g, x.toNat / 8, none⟩ (.int .u8 (((UInt8.ofNat (Plain.turn (l.getD (x.toNat / 8) 0).toNat (x.toNat % 8) on)).toNat : Nat) : Int)) := by
  have HL : Hid (L = l.length) := hl
  clear hl
  go_enter Try.func27, Try.ntmps27
  go_wp2_with fail
  refine (turn _ _ _ l HL.out _ _ _ h0 h1 hL hb).mono ?_
  rintro e w2 ⟨rfl, rfl⟩
  go_wp2
  go_end0
  exact ⟨rfl, rfl⟩

set_option maxHeartbeats 400000 in
theorem copy_yes (s : ByteArray) (a c : Int) (w : World) (hs : s.size ≤ 140737488351232) (h0 : 0 ≤ a) (h1 : 0 ≤ c) (h2 : a + c ≤ 8 * (s.size : Int)) :
    Calls Try.prog 15 #[.string s, .int .i64 a, .int .i64 c] w fun r w' => r = .returned (.tuple #[.string ⟨(Plain.cpy s.data.toList a.toNat c.toNat).toArray⟩, .int .i64 0]) ∧ Below w.heap.size w w' := by
  have hh : hasB s.size a c = true := hasB_yes h0 h1 h2
  obtain ⟨n, rfl⟩ := Int.eq_ofNat_of_zero_le h1
  rw [Int.toNat_natCast]
  obtain ⟨q, hq⟩ : ∃ q : Nat, q = (n + 7) / 8 := ⟨_, rfl⟩
  have HQ : Hid (q = (n + 7) / 8) := hq
  have hmk := make_bytes q (by omega)
  clear hq
  go_enter Try.func15, Try.ntmps15
  go_wp2_with fail
  refine (has _ _ _ _ hs (by omega) (by omega)).mono ?_
  rintro e w' ⟨rfl, rfl⟩
  rw [hh]
  go_wp2_with fail
  refine (size _ _ (by omega) (by omega)).mono ?_
  rintro e w' ⟨rfl, rfl⟩
  rw [show ((n : Int) + 7) / 8 = (q : Int) from by have := HQ.out; omega]
  go_wp2_with fail
  refine (each 27 (.inr rfl) (w'.heap.size + 1) (fun k v => Bytes v w'.heap.size (Plain.cpyTo s.data.toList a.toNat n k) ∧ v.cell? ⟨w'.heap.size + 1, 0, none⟩ = some (.slice (some ⟨w'.heap.size, 0, none⟩) q q) ∧ Below w'.heap.size w' v) s a n _ hs h0 h1 h2 ?_ ?_).mono ?_
  · refine ⟨?_, by simp, ((Below.refl _ _).alloc (Nat.le_refl _) _).alloc (by simp) _⟩
    have hz := Bytes.zeros w' q
    rw [HQ.out] at hz ⊢
    exact hz.below (B := (w'.alloc (.cells (zeros ((n + 7) / 8)) 5)).heap.size) ((Below.refl _ _).alloc (Nat.le_refl _) _) (by simp)
  · intro k v hk ⟨hb, hc, hbl⟩
    have hlen := Plain.length_cpyTo s.data.toList a.toNat n k
    refine (copy1 _ _ _ _ _ (by rw [hlen]; exact HQ.out) _ _ _ (by omega) (by rw [hlen]; omega) (by rw [hlen]; omega) hb hc).mono ?_
    rintro e v' ⟨rfl, hv⟩
    rw [Int.toNat_natCast] at hv
    subst hv
    refine ⟨rfl, ?_, ?_, hbl.setCell (Nat.le_refl _) _⟩
    · rw [Plain.cpyTo]
      exact hb.set (k / 8) (by rw [hlen]; omega) _
    · rw [World.cell?_setCell_other _ _ _ _ (by intro c; injection c with c1; omega)]
      exact hc
  · rw [Int.toNat_natCast]
    rintro e v ⟨rfl, hb, hc, hbl⟩
    have hb' : Bytes v w'.heap.size (Plain.cpy s.data.toList a.toNat n) := hb
    have hbk := hb'.back (L := q) (c := q) (by rw [Plain.length_cpy]; exact HQ.out)
    clear hb hmk
    go_wp2
    go_ret2
    exact ⟨rfl, hbl⟩
set_option maxHeartbeats 400000 in
theorem copy_no (s : ByteArray) (a c : Int) (w : World) (hs : s.size ≤ 140737488351232) (ha : a ≤ 9223372036854775807) (hc : c ≤ 9223372036854775807) (h : ¬ (0 ≤ a ∧ 0 ≤ c ∧ a + c ≤ 8 * (s.size : Int))) :
    Calls Try.prog 15 #[.string s, .int .i64 a, .int .i64 c] w fun r w' => r = .returned (.tuple #[.string ⟨#[]⟩, .int .i64 200]) ∧ w' = w := by
  have hh : hasB s.size a c = false := hasB_no h
  clear h
  go_enter Try.func15, Try.ntmps15
  go_wp2_with fail
  refine (has _ _ _ _ hs ha hc).mono ?_
  rintro e w' ⟨rfl, rfl⟩
  rw [hh]
  go_wp2
  go_ret2
  exact ⟨rfl, rfl⟩

set_option maxHeartbeats 800000 in
theorem awake (w : World) :
    Calls Try.prog 18 #[] w fun r w' => r = .returned (.bool true) ∧ Below w.heap.size w w' := by
  go_enter Try.func18, Try.ntmps18
  go_wp2_with fail
  refine (get_yes _ _ _ (by decide) (by decide) (by decide)).mono ?_
  rintro e w1 ⟨rfl, rfl⟩
  rw [show Plain.bit (ByteArray.mk #[5]).data.toList (2 : Int).toNat = true from by decide +kernel]
  go_wp2_with fail
  refine (set_yes _ _ _ _ (by decide) (by decide) (by decide)).mono ?_
  rintro e w2 ⟨rfl, b2⟩
  rw [show (Plain.setB (ByteArray.mk #[5]).data.toList (1 : Int).toNat true).toArray = #[7] from by decide +kernel]
  go_wp2_with fail
  refine (count_yes _ _ _ _ (by decide) (by decide) (by decide) (by decide)).mono ?_
  rintro e w3 ⟨rfl, b3⟩
  rw [show Plain.cnt (ByteArray.mk #[7, 1]).data.toList (1 : Int).toNat (8 : Int).toNat = 3 from by decide +kernel]
  go_wp2_with fail
  refine (copy_yes _ _ _ _ (by decide) (by decide) (by decide) (by decide)).mono ?_
  rintro e w4 ⟨rfl, b4⟩
  rw [show (Plain.cpy (ByteArray.mk #[6, 1]).data.toList (1 : Int).toNat (8 : Int).toNat).toArray = #[131] from by decide +kernel]
  go_wp2_with fail
  refine (get_no _ _ _ (by decide) (by decide) (by decide)).mono ?_
  rintro e w5 ⟨rfl, rfl⟩
  go_wp2_with fail
  refine (copy_no _ _ _ _ (by decide) (by decide) (by decide) (by decide)).mono ?_
  rintro e w6 ⟨rfl, rfl⟩
  go_wp2_with (go_at_call 17; refine (num _ _).mono ?_; rintro e w' ⟨rfl, rfl⟩)
  go_ret
  exact ⟨rfl, bel b2 (bel b3 b4)⟩
end Go.Proofs.Ytondhjfpfloejaa.Bit
