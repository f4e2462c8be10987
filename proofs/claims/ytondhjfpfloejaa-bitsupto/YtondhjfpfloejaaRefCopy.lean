/-
  What the document's own answer for a copy of bits computes: contracts.
-/
import Derived.Test.YtondhjfpfloejaaRows
import Derived.Test.YtondhjfpfloejaaPlain
import Derived.Test.YtondhjfpfloejaaBit
import Derived.Test.YtondhjfpfloejaaTurn
import Derived.Test.YtondhjfpfloejaaCopy
import Derived.Test.YtondhjfpfloejaaRef
import Derived.WalkKit
import Derived.ProofKit
import Derived.OpenShut
import Derived.Below
import Derived.RegionTactic
import Derived.ChangeAlike
import Derived.OwnWalk
import Derived.Laws.IdiomStrings
namespace Go.Proofs.Ytondhjfpfloejaa.Bit
open Go.ChangeShapes Go.WideShapes Go.ChangeAt Go.RowKit

/-- The first k of some truths, as bits of so many bytes as hold them all. -/
def ofTo (bs : List Bool) : Nat → List UInt8
  | 0 => List.replicate ((bs.length + 7) / 8) 0
  | k + 1 => if bs.getD k false then Plain.setB (ofTo bs k) k true else ofTo bs k
theorem length_ofTo (bs : List Bool) (k : Nat) : (ofTo bs k).length = (bs.length + 7) / 8 := by
  induction k with
  | zero => simp [ofTo]
  | succ k ih => rw [ofTo]; split <;> simp [Plain.length_setB, ih]
theorem bit_ofTo (bs : List Bool) (k : Nat) (h : k ≤ bs.length) (i : Nat) : Plain.bit (ofTo bs k) i = if i < k then bs.getD i false else false := by
  induction k with
  | zero => rw [ofTo, Plain.bit_zeros]; rfl
  | succ k ih =>
    rw [ofTo]
    cases hb : bs.getD k false
    · simp only [Bool.false_eq_true, if_false]
      rw [ih (by omega)]
      by_cases h1 : i = k
      · subst h1; rw [if_neg (by omega), if_pos (by omega), hb]
      · by_cases h2 : i < k
        · rw [if_pos h2, if_pos (by omega)]
        · rw [if_neg h2, if_neg (by omega)]
    · simp only [if_true]
      rw [Plain.bit_setB _ _ _ _ (by rw [length_ofTo]; omega), ih (by omega)]
      by_cases h1 : i = k
      · subst h1; rw [if_pos rfl, if_pos (by omega), hb]
      · by_cases h2 : i < k
        · rw [if_neg h1, if_pos h2, if_pos (by omega)]
        · rw [if_neg h1, if_neg h2, if_neg (by omega)]
/-- The bits of a text from a on, k of them, as truths. -/
def truths (l : List UInt8) (a : Nat) (k : Nat) : List Bool := (List.range k).map fun j => Plain.bit l (a + j)
theorem length_truths (l : List UInt8) (a k : Nat) : (truths l a k).length = k := by simp [truths]
theorem truths_succ (l : List UInt8) (a k : Nat) : truths l a (k + 1) = truths l a k ++ [Plain.bit l (a + k)] := by simp [truths, List.range_succ]
theorem of_truths (l : List UInt8) (a n : Nat) : ofTo (truths l a n) (truths l a n).length = Plain.cpy l a n := by
  apply Plain.ext
  · rw [length_ofTo, length_truths, Plain.length_cpy]
  · intro i _
    rw [bit_ofTo _ _ (Nat.le_refl _), Plain.bit_cpy, length_truths]
    by_cases h : i < n
    · rw [if_pos h, if_pos h]; simp [truths, h]
    · rw [if_neg h, if_neg h]

theorem make_bytes' (n : Nat) (h : n ≤ 140737488351232) (w : World) :
    (Instr.makeSlice 46 (.int .i64 (n : Int)) (.int .i64 (n : Int))).run Try.prog w = .ok (.slice (some ⟨w.heap.size, 0, none⟩) n n) (w.alloc (.cells (zeros n) 5)) := by
  obtain ⟨i, hi, hz0, hz1, hz2⟩ := info_parts info5
  have := run_make (P := Try.prog) w 46 5 i (.int .u8 0) Try.underlying46 hi hz0 .i64 .i64 n n (by omega) (Int.le_refl _) (by rw [hz2]; omega) (by omega)
  rw [this, hz1, Nat.mul_one, Int.toNat_natCast]
  rfl

set_option maxHeartbeats 400000 in
theorem bitBytes (x : Int) (w : World) (h0 : 0 ≤ x) (h : x ≤ 140737488351232) :
    Calls Try.prog 29 #[.int .i64 x] w fun r w' => r = .returned (.int .i64 ((x + 7) / 8)) ∧ w' = w := by
  go_enter Try.func29, Try.ntmps29
  go_wp2
  go_ret
  exact ⟨rfl, rfl⟩

set_option maxHeartbeats 400000 in
theorem bitsOf (gx cap : Nat) (bs : List Bool) (w : World) (hn : bs.length ≤ 16777216) (hg : gx < w.heap.size)
    (hx : ∀ i, i < bs.length → w.cell? ⟨gx, i, none⟩ = some (.bool (bs.getD i false))) :
    Calls Try.prog 28 #[.slice (some ⟨gx, 0, none⟩) bs.length cap] w fun r w' => r = .returned (.string ⟨(ofTo bs bs.length).toArray⟩) ∧ Below w.heap.size w w' := by
  have HX : Hid (∀ i, i < bs.length → w.cell? ⟨gx, i, none⟩ = some (.bool (bs.getD i false))) := hx
  clear hx
  obtain ⟨q, hq⟩ : ∃ q : Nat, q = (bs.length + 7) / 8 := ⟨_, rfl⟩
  have HQ : Hid (q = (bs.length + 7) / 8) := hq
  have hmk := make_bytes' q (by omega)
  clear hq
  go_enter Try.func28, Try.ntmps28
  go_wp2_with fail
  refine (bitBytes _ _ (by omega) (by omega)).mono ?_
  rintro e w' ⟨rfl, rfl⟩
  rw [show ((bs.length : Int) + 7) / 8 = (q : Int) from by have := HQ.out; omega]
  go_wp2_with fail
  go_loopw [4] (fun i wr => ∃ k : Nat, k ≤ bs.length ∧ i = .int .i64 k ∧ Bytes wr w'.heap.size (ofTo bs k) ∧ Below w'.heap.size w' wr) (fun i _ => bs.length - (intOf i).toNat)
  case atStart =>
    refine ⟨0, by omega, rfl, ?_, (Below.refl _ _).alloc (Nat.le_refl _) _⟩
    have hz := Bytes.zeros w' q
    rw [HQ.out] at hz ⊢
    exact hz
  case round =>
    obtain ⟨k, hk, rfl, hb, hbl⟩ := hrel
    have HB : Hid (Bytes wr w'.heap.size (ofTo bs k)) := hb
    clear hb
    have hlen := length_ofTo bs k
    have HL : Hid ((ofTo bs k).length = (bs.length + 7) / 8) := hlen
    clear hlen
    by_cases hlt : k < bs.length
    · have hck : wr.cell? ⟨gx, k, none⟩ = some (.bool (bs.getD k false)) := (hbl.cell (p := ⟨gx, k, none⟩) hg).trans (HX.out k hlt)
      have HS : Hid (ofTo bs (k + 1) = if bs.getD k false then Plain.setB (ofTo bs k) k true else ofTo bs k) := rfl
      cases hbit : bs.getD k false
      · rw [hbit] at hck HS
        clear hbit
        go_wp2
        go_roundw
        case rel => exact ⟨k + 1, by omega, by go_num, by rw [HS.out]; exact HB.out, hbl⟩
        case measure => simp [intOf]; omega
      · rw [hbit] at hck HS
        clear hbit
        have hql : k / 8 < q := by have := HQ.out; omega
        have hc := HB.out.cell (k / 8) (by rw [HL.out, ← HQ.out]; exact hql)
        have hf := HB.out.free (k / 8) (by rw [HL.out, ← HQ.out]; exact hql)
        have hm : (k : Int) % 8 = ((k % 8 : Nat) : Int) := by omega
        have hr : k % 8 < 8 := Nat.mod_lt _ (by decide)
        have hx : ((ofTo bs k).getD (k / 8) 0).toNat < 256 := Plain.byte_lt _
        have hb2 : Bytes (wr.setCell ⟨w'.heap.size, k / 8, none⟩ (.int .u8 ((Plain.turn ((ofTo bs k).getD (k / 8) 0).toNat (k % 8) true : Nat) : Int))) w'.heap.size (ofTo bs (k + 1)) := by
          have := HB.out.set (k / 8) (by rw [HL.out, ← HQ.out]; exact hql) (UInt8.ofNat (Plain.turn ((ofTo bs k).getD (k / 8) 0).toNat (k % 8) true))
          rw [Plain.setB_byte] at this
          rw [HS.out]
          exact this
        have HB2 : Hid (Bytes (wr.setCell ⟨w'.heap.size, k / 8, none⟩ (.int .u8 ((Plain.turn ((ofTo bs k).getD (k / 8) 0).toNat (k % 8) true : Nat) : Int))) w'.heap.size (ofTo bs (k + 1))) := hb2
        clear hb2 HS
        generalize ((ofTo bs k).getD (k / 8) 0).toNat = x at *
        generalize k % 8 = r at *
        have ht : bits BinOp.or IntKind.u8 (↑x) (2 ^ r % 256) = _ := Plain.or_byte x r hx hr
        have i0 : (0 : Int) ≤ (k : Int) / 8 := by omega
        have i1 : (k : Int) / 8 < (q : Int) := by omega
        go_wp2
        go_region
        go_wp2
        go_roundw
        case rel => exact ⟨k + 1, by omega, by go_num, ⟨HB2.out.cell, HB2.out.free⟩, (hbl.setCell (p := ⟨w'.heap.size, k / 8, none⟩) (Nat.le_refl _) _).drew⟩
        case measure => simp [intOf]; omega
    · have HK : Hid (k = bs.length) := by unfold Hid; omega
      have hbk := HB.out.back (L := q) (c := q) (by rw [HL.out]; exact HQ.out)
      rw [show ofTo bs k = ofTo bs bs.length from by rw [HK.out]] at hbk
      go_wp2
      go_ret
      exact ⟨rfl, hbl⟩

set_option maxHeartbeats 400000 in
theorem bitsOf_nil (w : World) :
    Calls Try.prog 28 #[.slice none 0 0] w fun r w' => r = .returned (.string ⟨#[]⟩) ∧ Below w.heap.size w w' := by
  have hmk : ∀ w : World, (Instr.makeSlice 46 (.int .i64 0) (.int .i64 0)).run Try.prog w = .ok (.slice (some ⟨w.heap.size, 0, none⟩) 0 0) (w.alloc (.cells (zeros 0) 5)) := make_bytes' 0 (by decide)
  have hbk : (convert 46 9 (.slice (some ⟨w.heap.size, 0, none⟩) 0 0)).run Try.prog (w.alloc (.cells (zeros 0) 5)) = .ok (.string ⟨#[]⟩) (w.alloc (.cells (zeros 0) 5)) := (Bytes.zeros w 0).back rfl
  go_enter Try.func28, Try.ntmps28
  go_wp2_with fail
  refine (bitBytes _ _ (by decide) (by decide)).mono ?_
  rintro e w' ⟨rfl, rfl⟩
  rw [show ((0 : Int) + 7) / 8 = 0 from by decide]
  go_wp2_with fail
  refine wp_loop_rounds 1 ?_
  rw [rounds_succ]
  go_wp2
  go_ret
  exact ⟨rfl, (Below.refl _ _).alloc (Nat.le_refl _) _⟩

theorem info4 : (Try.prog.info? 4).map (fun i => (i.zero, i.size, i.bytes)) = some (some (.bool false), 1, 1) := by kernel_rfl
theorem ret_str {a b : List UInt8} {y : Value} (h : a = b) : Ending.returned (.tuple #[.string ⟨a.toArray⟩, y]) = .returned (.tuple #[.string ⟨b.toArray⟩, y]) := by rw [h]
theorem truths_at (l : List UInt8) (a k i : Nat) (h : i < k) : ((truths l a k).map Value.bool)[i]? = some (.bool ((truths l a k).getD i false)) := by
  have h' : i < (truths l a k).length := by rw [length_truths]; exact h
  rw [List.getElem?_map, List.getD_eq_getElem?_getD, List.getElem?_eq_getElem h']
  rfl

set_option maxHeartbeats 800000 in
theorem refCopy_yes (s : ByteArray) (a c : Int) (w : World) (hs : s.size ≤ 1048576) (h0 : 0 ≤ a) (h1 : 0 ≤ c) (h2 : a + c ≤ 8 * (s.size : Int)) :
    Calls Try.prog 16 #[.string s, .int .i64 a, .int .i64 c] w fun r w' => r = .returned (.tuple #[.string ⟨(Plain.cpy s.data.toList a.toNat c.toNat).toArray⟩, .int .i64 0]) ∧ Below w.heap.size w w' := by
  have hh : hasB s.size a c = true := hasB_yes h0 h1 h2
  obtain ⟨i4, hi, hz0, hz1, hz2⟩ := info_parts info4
  go_enter Try.func16, Try.ntmps16
  go_wp2_with fail
  refine (rangeMay _ _ _ _ (by omega)).mono ?_
  rintro e w' ⟨rfl, rfl⟩
  rw [hh]
  go_wp2_with fail
  go_loopw [8, 9] (fun v i wr => ∃ k : Nat, (k : Int) ≤ c ∧ i = .int .i64 (a + k) ∧ wr.ownsRow w'.heap.size 4 1 v k ((truths s.data.toList a.toNat k).map Value.bool) ∧ Below w'.heap.size w' wr) (fun _ i _ => (a + c).toNat - (intOf i).toNat)
  case atStart => exact ⟨0, h1, by go_num, World.ownsRow_nil _ _ _ _, Below.refl _ _⟩
  case round =>
    obtain ⟨k, hk, rfl, hown, hbl⟩ := hrel
    by_cases hlt : a + (k : Int) < a + c
    · go_wp2_with fail
      refine (refBit _ _ (by omega) (by omega) (by omega) _).mono ?_
      rintro e w2 ⟨rfl, rfl⟩
      rw [show (a + (k : Int)).toNat = a.toNat + k from by omega]
      have HT : Hid (truths s.data.toList a.toNat (k + 1) = truths s.data.toList a.toNat k ++ [Plain.bit s.data.toList (a.toNat + k)]) := truths_succ _ _ _
      generalize Plain.bit s.data.toList (a.toNat + k) = bt at *
      go_wp2_with (at_builtin; refine wpList_append_own _ rfl (.tmp 23) (.tmp 27) 51 rfl w'.heap.size 4 i4 (.bool false) 1 1 Try.underlying51 hi hz0 hz1 hz2 rfl (by decide) _ k _ rfl (hown.alloc _) ⟨w2.heap.size, 0, none⟩ 1 1 [.bool bt] rfl rfl ?c1 ?c2 ?c3 ?c4 ?c5 ?_)
      case c1 =>
        intro j u hj
        match j, hj with
        | 0, hj => simp at hj; subst hj; simp [Addr.add]
      case c2 => intro u hu; simp at hu; subst hu; rfl
      case c3 => unfold maxLen; omega
      case c4 => omega
      case c5 => have := hbl.size; simp; omega
      intro v' w3 hown' hgrow _
      have hb3 : Below w'.heap.size w' w3 := (hbl.alloc hbl.size _).grown hgrow (by have := hbl.size; simp; omega) (fun j hj => (hown.lt j hj).1)
      rw [← List.map_singleton, ← List.map_append, ← HT.out] at hown'
      clear hown hgrow hbl
      go_wp2
      go_roundw
      case rel => exact ⟨k + 1, by omega, by go_num, hown', hb3⟩
      case measure => simp [intOf]; omega
    · have HC : Hid (c.toNat = k) := by unfold Hid; omega
      have hl := hown.lt
      have hown2 := hown
      rcases hown2.2 with ⟨rfl, hnil⟩ | ⟨g, cap, cur, rfl, hbg, hg, _⟩
      · have HN : Hid (k = 0) := hnil
        clear hown hown2 hnil hl
        go_wp2_with fail
        refine (bitsOf_nil _).mono ?_
        rintro e w3 ⟨rfl, b3⟩
        go_wp2
        go_ret2
        refine ⟨?_, hbl.trans (b3.mono hbl.size)⟩
        rw [HC.out, HN.out]
        rfl
      · have hlt2 : g < wr.heap.size := (hl g rfl).2
        have HX : Hid (∀ i, i < (truths s.data.toList a.toNat k).length → wr.cell? ⟨g, i, none⟩ = some (.bool ((truths s.data.toList a.toNat k).getD i false))) := by
          intro i hi
          rw [length_truths] at hi
          rw [hown.cellAt i (by omega)]
          exact truths_at _ _ _ _ hi
        have hkl : k ≤ 8388608 := by omega
        clear hown hown2 hl hg
        go_wp2_with fail
        have hlen := length_truths s.data.toList a.toNat k
        have hcall := bitsOf g cap (truths s.data.toList a.toNat k) wr (by omega) hlt2 HX.out
        rw [of_truths, hlen] at hcall
        clear hlen
        refine hcall.mono ?_
        rintro e w3 ⟨rfl, b3⟩
        go_wp2
        go_ret2
        refine ⟨ret_str (by rw [HC.out]), hbl.trans (b3.mono hbl.size)⟩
end Go.Proofs.Ytondhjfpfloejaa.Bit
