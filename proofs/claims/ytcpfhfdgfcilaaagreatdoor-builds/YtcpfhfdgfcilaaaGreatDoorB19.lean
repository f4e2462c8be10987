/-
  Several texts in one: Lists one behind the other: what stands where; numbers in a row of bytes; truths in bits: plain facts. · An array of values: what is built of them; values that fit, taken apart; a node's zero: plain functions and facts. · What is built of values that fit may be, and is read as these values. · What is built of values that fit may be, and is read as these values: the whole. · What is read of an array that may be can be built again. · Leaves by a dictionary and by runs: what is made of values may be, and is read as these values. · The bits of values that are there: the document's valid: contract. · A node's zero: the document's zero: contract. · What is built, value by value: plain facts.
-/
import Derived.WalkKit
import Derived.Test.YtcpfhfdgfcilaaaGreatDoorB01
import Derived.Test.YtcpfhfdgfcilaaaGreatDoorB02
import Derived.Test.YtcpfhfdgfcilaaaGreatDoorB03
import Derived.Test.YtcpfhfdgfcilaaaGreatDoorB04
import Derived.Test.YtcpfhfdgfcilaaaGreatDoorB12
import Derived.Test.YtcpfhfdgfcilaaaGreatDoorB14
import Derived.Test.YtcpfhfdgfcilaaaGreatDoorB13
import Derived.Test.YtcpfhfdgfcilaaaGreatDoorB15
import Derived.Maps.AppendAt
import Derived.OneCell
import Derived.Laws.OwnMore
namespace Go.Proofs.YtcpfhfdgfcilaaaGreatDoor.Sums

theorem length_all {α β : Type} (h : α → List β) (d : α) : ∀ (l : List α), (l.map h).flatten.length = sumTo (fun j => (h (l.getD j d)).length) l.length
  | [] => rfl
  | x :: l => by
    have hs := sumTo_shift (fun j => (h ((x :: l).getD j d)).length) 1 l.length
    rw [List.map_cons, List.flatten_cons, List.length_append, length_all h d l, List.length_cons, Nat.add_comm l.length 1, ← hs]
    have e : sumTo (fun j => (h ((x :: l).getD j d)).length) 1 = (h x).length := by
      show 0 + (h x).length = _
      omega
    rw [e, Nat.add_comm]
    congr 1
    refine sumTo_congr _ fun j _ => ?_
    rw [Nat.add_comm 1 j, List.getD_cons_succ]
/-- Truths as bits. -/
def ofTo (bs : List Bool) : Nat → List UInt8
  | 0 => List.replicate ((bs.length + 7) / 8) 0
  | k + 1 => if bs.getD k false then BitP.setB (ofTo bs k) k true else ofTo bs k
theorem length_ofTo (bs : List Bool) (k : Nat) : (ofTo bs k).length = (bs.length + 7) / 8 := by
  induction k with
  | zero => simp [ofTo]
  | succ k ih => rw [ofTo]; split <;> simp [BitP.length_setB, ih]
theorem bit_ofTo (bs : List Bool) (k : Nat) (h : k ≤ bs.length) (i : Nat) : BitP.bit (ofTo bs k) i = if i < k then bs.getD i false else false := by
  induction k with
  | zero => rw [ofTo, BitP.bit_zeros]; rfl
  | succ k ih =>
    rw [ofTo]
    cases hb : bs.getD k false
    · simp only [Bool.false_eq_true, if_false]
      rw [ih (by omega)]
      by_cases h1 : i = k
      · subst h1; rw [if_neg (by omega), if_pos (by omega), hb]
      · by_cases h2 : i < k
        · rw [if_pos h2, if_pos (by omega)]
        · rw [if_neg h2, if_neg (by omega)]
    · simp only [if_true]
      rw [BitP.bit_setB _ _ _ _ (by rw [length_ofTo]; omega), ih (by omega)]
      by_cases h1 : i = k
      · subst h1; rw [if_pos rfl, if_pos (by omega), hb]
      · by_cases h2 : i < k
        · rw [if_neg h1, if_pos h2, if_pos (by omega)]
        · rw [if_neg h1, if_neg h2, if_neg (by omega)]
def bitsOf (bs : List Bool) : List UInt8 := ofTo bs bs.length
theorem length_bitsOf (bs : List Bool) : (bitsOf bs).length = (bs.length + 7) / 8 := length_ofTo bs _
end Go.Proofs.YtcpfhfdgfcilaaaGreatDoor.Sums
namespace Go.Proofs.YtcpfhfdgfcilaaaGreatDoor.Arr
open Tree Val Sums

/-- A value's kind and parts; of what is none nothing. -/
def tellV (v : List UInt8) : Int × List (List UInt8) := (partsM v).getD (0, [])
/-- A node's zero. -/
def zeroF (ns : List Nd) : Nat → Nat → List UInt8
  | 0, _ => []
  | f + 1, n =>
    if (nd ns n).null then nullM
    else if (nd ns n).kind = 0 then intM 0
    else if (nd ns n).kind = 1 then boolM false
    else if (nd ns n).kind = 2 then bytesM []
    else if (nd ns n).kind = 3 then listM []
    else structM ((List.range (kids ns n).length).map fun i => zeroF ns f (kAt ns n i))
/-- The bits of values that are there. -/
def validOf (vs : List (List UInt8)) : List UInt8 := if vs.all (fun v => decide (v ≠ nullM)) then [] else bitsOf (vs.map fun v => decide (v ≠ nullM))
/-- A value's whole number; of nothing 0. -/
def intV (v : List UInt8) : Int := if (tellV v).1 < 0 then 0 else (numOf ((tellV v).2.getD 0 [])).getD 0
def wrapN (x : Int) : Nat := (x % 18446744073709551616).toNat
def dataOf (ns : List Nd) (n : Nat) (vs : List (List UInt8)) : List UInt8 :=
  if (nd ns n).kind = 0 then (vs.map fun v => Plain.low (wrapN (intV v)) 8).flatten
  else if (nd ns n).kind = 1 then bitsOf (vs.map fun v => decide (v = [116]))
  else if (nd ns n).kind = 2 then (vs.map fun v => (tellV v).2.flatten).flatten
  else []
/-- How much each value takes, where there are ends. -/
def sizeV (ns : List Nd) (n : Nat) (v : List UInt8) : Nat := if (nd ns n).kind = 2 then (tellV v).2.flatten.length else (tellV v).2.length
def endsOf (ns : List Nd) (n : Nat) (vs : List (List UInt8)) : List UInt8 :=
  if (nd ns n).kind = 2 ∨ (nd ns n).kind = 3 then ((List.range (vs.length + 1)).map fun i => Plain.low (sumTo (fun j => sizeV ns n (vs.getD j [])) i) 4).flatten else []
/-- A kid's values. -/
def kidRows (ns : List Nd) (n : Nat) (vs : List (List UInt8)) (j : Nat) : List (List UInt8) :=
  if (nd ns n).kind = 3 then (vs.map fun v => (tellV v).2).flatten
  else vs.map fun v => if (tellV v).1 < 0 then zeroF ns 8 (kAt ns n j) else (tellV v).2.getD j []
/-- An array of values that fit; none: it is too much. -/
def buildF (ns : List Nd) : Nat → Nat → List (List UInt8) → Option Arr
  | 0, _, _ => none
  | f + 1, n, vs =>
    if vs.length ≤ 64 ∧ ((List.range (kids ns n).length).all fun j => (buildF ns f (kAt ns n j) (kidRows ns n vs j)).isSome) = true ∧ (dataOf ns n vs).length ≤ 4096 ∧ (endsOf ns n vs).length ≤ 4096 then
      some ⟨0, 0, vs.length, mk (validOf vs), mk (endsOf ns n vs), mk (dataOf ns n vs), (List.range (kids ns n).length).map fun j => (buildF ns f (kAt ns n j) (kidRows ns n vs j)).getD nil⟩
    else none
/-- A value that fits, taken apart. -/
structure Fit (ns : List Nd) (g n : Nat) (v : List UInt8) (ps : List (List UInt8)) : Prop where
  tell : partsM v = some ((nd ns n).kind, ps)
  made : Made (nd ns n).kind ps v
  bytes : (nd ns n).kind = 2 → (ps.getD 0 []).length ≤ 16
  list : (nd ns n).kind = 3 → ps.length ≤ 64 ∧ ∀ p ∈ ps, fitsF ns g (kAt ns n 0) (mk p) = true
  struct : (nd ns n).kind = 4 → ps.length = (kids ns n).length ∧ ∀ i, i < (kids ns n).length → fitsF ns g (kAt ns n i) (mk (ps.getD i [])) = true
theorem partsS_some {v : List UInt8} {k : Int} {qs : List ByteArray} (h : partsS (mk v) = some (k, qs)) : ∃ ps, partsM v = some (k, ps) ∧ qs = ps.map mk := by
  unfold partsS mk at h
  rw [bl_mk] at h
  cases c : partsM v with
  | none => rw [c] at h; cases h
  | some y =>
    obtain ⟨k', ps⟩ := y
    rw [c] at h
    simp only [Option.map_some, Option.some.injEq, Prod.mk.injEq] at h
    obtain ⟨rfl, rfl⟩ := h
    exact ⟨ps, rfl, rfl⟩
theorem isVal_of {v : List UInt8} {y : Int × List (List UInt8)} (h : partsM v = some y) : isVal v := by
  unfold partsM at h
  split at h
  · rename_i c
    exact c
  · cases h
theorem fits_inv {ns : List Nd} {g n : Nat} {v : List UInt8} (h : fitsF ns (g + 1) n (mk v) = true) : (v = nullM ∧ (nd ns n).null = true) ∨ ∃ ps, Fit ns g n v ps := by
  rw [fitsF] at h
  cases c : partsS (mk v) with
  | none => rw [c] at h; cases h
  | some y =>
    obtain ⟨k, qs⟩ := y
    obtain ⟨ps, h1, rfl⟩ := partsS_some c
    rw [c] at h
    obtain ⟨k', ps', h2, h3⟩ := parts_made (isVal_of h1)
    rw [h1] at h2
    injection h2 with h2
    injection h2 with e1 e2
    subst e1 e2
    replace h : (if k < 0 then (nd ns n).null else if k ≠ (nd ns n).kind then false else if k = 2 then decide (((ps.map mk).getD 0 ByteArray.empty).size ≤ 16) else if k = 3 then decide ((ps.map mk).length ≤ 64) && (ps.map mk).all (fitsF ns g ((kids ns n).getD 0 0)) else if k = 4 then decide ((ps.map mk).length = (kids ns n).length) && ((kids ns n).zip (ps.map mk)).all (fun q => fitsF ns g q.1 q.2) else true) = true := h
    by_cases hk : k < 0
    · rw [if_pos hk] at h
      refine .inl ⟨?_, h⟩
      rcases h3 with ⟨_, _, e⟩ | ⟨x, _, e, _⟩ | ⟨b, e, _⟩ | ⟨s, e, _⟩ | ⟨e, _⟩ | ⟨e, _⟩
      · exact e
      all_goals omega
    · rw [if_neg hk] at h
      by_cases hk2 : k ≠ (nd ns n).kind
      · rw [if_pos hk2] at h
        cases h
      · rw [if_neg hk2] at h
        have e : k = (nd ns n).kind := Decidable.not_not.1 hk2
        subst e
        refine .inr ⟨ps, h1, h3, fun e => ?_, fun e => ?_, fun e => ?_⟩
        · rw [if_pos e, decide_eq_true_eq] at h
          cases ps with
          | nil => exact Nat.zero_le _
          | cons q ps =>
            rw [List.map_cons, List.getD_cons_zero, ← bl_length] at h
            unfold mk at h
            rw [bl_mk] at h
            rw [List.getD_cons_zero]
            exact h
        · rw [if_neg (by omega), if_pos e, Bool.and_eq_true, decide_eq_true_eq, List.all_eq_true, List.length_map] at h
          exact ⟨h.1, fun p hp => h.2 (mk p) (List.mem_map_of_mem hp)⟩
        · rw [if_neg (by omega), if_neg (by omega), if_pos e, Bool.and_eq_true, decide_eq_true_eq, List.all_eq_true, List.length_map] at h
          refine ⟨h.1, fun i hi => ?_⟩
          have hm : ((kAt ns n i), mk (ps.getD i [])) ∈ (kids ns n).zip (ps.map mk) := by
            refine List.mem_of_getElem? (i := i) ?_
            rw [List.getElem?_zip_eq_some]
            unfold kAt
            have h2 : i < ps.length := by omega
            rw [List.getElem?_map, List.getElem?_eq_getElem hi, List.getElem?_eq_getElem h2, List.getD_eq_getElem?_getD, List.getElem?_eq_getElem hi, List.getD_eq_getElem?_getD, List.getElem?_eq_getElem h2]
            exact ⟨rfl, rfl⟩
          exact h.2 _ hm
theorem tell_null : tellV nullM = (-1, []) := by
  unfold tellV
  rw [parts_null]
  rfl
theorem Fit.tellV {ns : List Nd} {g n : Nat} {v : List UInt8} {ps : List (List UInt8)} (h : Fit ns g n v ps) : tellV v = ((nd ns n).kind, ps) := by
  unfold Arr.tellV
  rw [h.tell]
  rfl
theorem Fit.ne_null {ns : List Nd} (hm : May ns) {g n : Nat} (hn : n < ns.length) {v : List UInt8} {ps : List (List UInt8)} (h : Fit ns g n v ps) : v ≠ nullM := by
  intro e
  have := h.tellV
  rw [e, tell_null] at this
  have hk := hm.kind n hn
  injection this with e1 _
  omega
/-- A node's zero fits it. -/
theorem zero_ok {ns : List Nd} (hm : May ns) : ∀ (f n : Nat), n < ns.length → ns.length - n ≤ f → val (4 - depth ns n) (zeroF ns f n) = some (zeroF ns f n).length ∧ (zeroF ns f n).length ≤ hang 3 ns n ∧ ∀ g, ns.length - n ≤ g → fitsF ns g n (mk (zeroF ns f n)) = true := by
  intro f
  induction f with
  | zero => intro n hn hf; omega
  | succ f ih =>
    intro n hn hf
    have hhang := hang_kids hm 3 hn
    rw [zeroF]
    by_cases hnull : (nd ns n).null = true
    · rw [if_pos hnull]
      refine ⟨val_null _, ?_, fun g hg => ?_⟩
      · have : nullM.length = 1 := rfl
        omega
      · obtain ⟨g, rfl⟩ : ∃ y, g = y + 1 := ⟨g - 1, by omega⟩
        exact fits_null hnull
    · rw [if_neg hnull]
      rcases kinds hm hn with e | e | e | e | e
      · have h0 : in64 0 := by unfold in64; omega
        rw [if_pos e]
        refine ⟨val_int _ 0 h0, ?_, fun g hg => ?_⟩
        · have : (intM 0).length = 3 := by decide
          omega
        · obtain ⟨g, rfl⟩ : ∃ y, g = y + 1 := ⟨g - 1, by omega⟩
          exact fits_leaf (.inl e) (by rw [e]; exact parts_int 0 h0) (fun c => by omega)
      · rw [if_neg (by omega), if_pos e]
        refine ⟨val_bool _ _, ?_, fun g hg => ?_⟩
        · have : (boolM false).length = 1 := by decide
          omega
        · obtain ⟨g, rfl⟩ : ∃ y, g = y + 1 := ⟨g - 1, by omega⟩
          exact fits_leaf (.inr (.inl e)) (by rw [e]; exact parts_bool false) (fun c => by omega)
      · rw [if_neg (by omega), if_neg (by omega), if_pos e]
        have hl : (bytesM []).length = 3 := by decide
        refine ⟨val_bytes _ [] (by simp), by omega, fun g hg => ?_⟩
        obtain ⟨g, rfl⟩ : ∃ y, g = y + 1 := ⟨g - 1, by omega⟩
        exact fits_leaf (.inr (.inr e)) (by rw [e]; exact parts_bytes [] (by omega)) (fun _ => ⟨by rw [List.getD_cons_zero]; exact Nat.zero_le _, List.cons_ne_nil _ _⟩)
      · rw [if_neg (by omega), if_neg (by omega), if_neg (by omega), if_pos e]
        have hl : (listM []).length = 2 := by decide
        have h1k : 0 < (kids ns n).length := by have := hm.list n hn e; omega
        have hd := hm.depth_le (kid_of hm h1k).2.1
        have hd2 := (kid_of hm h1k).2.2
        refine ⟨?_, by omega, fun g hg => ?_⟩
        · rw [show 4 - depth ns n = (4 - (depth ns n + 1)) + 1 from by omega]
          exact val_list _ [] (fun v hv => by cases hv)
        · obtain ⟨g, rfl⟩ : ∃ y, g = y + 1 := ⟨g - 1, by omega⟩
          exact fits_list e (parts_list [] (fun v hv => by cases hv) (by omega)) (Nat.zero_le _) (fun v hv => by cases hv)
      · rw [if_neg (by omega), if_neg (by omega), if_neg (by omega), if_neg (by omega)]
        have h1k : 0 < (kids ns n).length := by have := hm.struct n hn e; omega
        have hd := hm.depth_le (kid_of hm h1k).2.1
        have hd2 := (kid_of hm h1k).2.2
        have hkid := fun i (hi : i < (kids ns n).length) => ih (kAt ns n i) (kid_of hm hi).2.1 (by have := (kid_of hm hi).1; omega)
        have hlen : (structM ((List.range (kids ns n).length).map fun i => zeroF ns f (kAt ns n i))).length ≤ hang 3 ns n := by
          rw [length_structM, length_flat, hhang, sum_kAt]
          have := sumTo_le (g := fun i => (zeroF ns f (kAt ns n i)).length) (h := fun i => hang 3 ns (kAt ns n i)) (kids ns n).length (fun i hi => (hkid i hi).2.1)
          omega
        have hle := hang_le hm 3 hn
        refine ⟨?_, hlen, fun g hg => ?_⟩
        · rw [show 4 - depth ns n = (4 - (depth ns n + 1)) + 1 from by omega]
          refine val_struct _ _ fun v hv => ?_
          obtain ⟨i, hi, rfl⟩ := List.mem_map.1 hv
          rw [List.mem_range] at hi
          have := (hkid i hi).1
          rw [(kid_of hm hi).2.2] at this
          exact this
        · obtain ⟨g, rfl⟩ : ∃ y, g = y + 1 := ⟨g - 1, by omega⟩
          refine fits_struct e (parts_struct _ (fun v hv => ?_) (by omega)) (fun i hi => (hkid i hi).2.2 g (by have := (kid_of hm hi).1; omega))
          obtain ⟨i, hi, rfl⟩ := List.mem_map.1 hv
          rw [List.mem_range] at hi
          have := (hkid i hi).1
          rw [(kid_of hm hi).2.2] at this
          exact val_up _ 3 (by omega) _ _ this
end Go.Proofs.YtcpfhfdgfcilaaaGreatDoor.Arr
namespace Go.Proofs.YtcpfhfdgfcilaaaGreatDoor.Arr
open Tree Val Sums

theorem bl_mk' (l : List UInt8) : bl (mk l) = l := bl_mk l
theorem size_mk (l : List UInt8) : (mk l).size = l.length := by rw [← bl_length, bl_mk']
theorem getD_mem' {vs : List (List UInt8)} {i : Nat} (h : i < vs.length) : vs.getD i [] ∈ vs := by
  rw [List.getD_eq_getElem?_getD, List.getElem?_eq_getElem h]
  exact List.getElem_mem h
/-- What is built, written out. -/
def built (ns : List Nd) (f n : Nat) (vs : List (List UInt8)) : Arr :=
  ⟨0, 0, vs.length, mk (validOf vs), mk (endsOf ns n vs), mk (dataOf ns n vs), (List.range (kids ns n).length).map fun j => (buildF ns f (kAt ns n j) (kidRows ns n vs j)).getD nil⟩
theorem build_some {ns : List Nd} {f n : Nat} {vs : List (List UInt8)} {a : Arr} (h : buildF ns (f + 1) n vs = some a) : a = built ns f n vs ∧ vs.length ≤ 64 ∧ (∀ j, j < (kids ns n).length → ∃ b, buildF ns f (kAt ns n j) (kidRows ns n vs j) = some b ∧ kidAt a j = b) ∧ (dataOf ns n vs).length ≤ 4096 ∧ (endsOf ns n vs).length ≤ 4096 := by
  rw [buildF] at h
  split at h
  · rename_i c
    injection h with h
    refine ⟨h.symm, c.1, fun j hj => ?_, c.2.2⟩
    have := List.all_eq_true.1 c.2.1 j (List.mem_range.2 hj)
    obtain ⟨b, hb⟩ := Option.isSome_iff_exists.1 this
    refine ⟨b, hb, ?_⟩
    rw [← h]
    unfold kidAt
    show ((List.range (kids ns n).length).map fun j => (buildF ns f (kAt ns n j) (kidRows ns n vs j)).getD nil).getD j nil = b
    rw [List.getD_eq_getElem?_getD, List.getElem?_map, List.getElem?_range hj, Option.map_some, hb]
    rfl
  · cases h
/-- Ends of what is built. -/
theorem length_endsOf {ns : List Nd} {n : Nat} {vs : List (List UInt8)} (hk : (nd ns n).kind = 2 ∨ (nd ns n).kind = 3) : (endsOf ns n vs).length = 4 * (vs.length + 1) := by
  unfold endsOf
  rw [if_pos hk, length_all (fun i => Plain.low (sumTo (fun j => sizeV ns n (vs.getD j [])) i) 4) 0, sumTo_congr (h := fun _ => 4) _ (fun j _ => Plain.length_low _ _), sumTo_const, List.length_range]
end Go.Proofs.YtcpfhfdgfcilaaaGreatDoor.Arr
namespace Go.Proofs.YtcpfhfdgfcilaaaGreatDoor.Arr
open Tree Val Sums

theorem made_int {v : List UInt8} {ps : List (List UInt8)} (h : Made 0 ps v) : ∃ x, in64 x ∧ ps = [intD x] ∧ v = intM x := by
  rcases h with ⟨e, _⟩ | ⟨x, h1, _, h2, h3⟩ | ⟨b, e, _⟩ | ⟨s, e, _⟩ | ⟨e, _⟩ | ⟨e, _⟩
  · exact absurd e (by decide)
  · exact ⟨x, h1, h2, h3⟩
  all_goals exact absurd e (by decide)
theorem made_bool {v : List UInt8} {ps : List (List UInt8)} (h : Made 1 ps v) : ∃ b, v = boolM b := by
  rcases h with ⟨e, _⟩ | ⟨x, _, e, _⟩ | ⟨b, _, _, h3⟩ | ⟨s, e, _⟩ | ⟨e, _⟩ | ⟨e, _⟩
  · exact absurd e (by decide)
  · exact absurd e (by decide)
  · exact ⟨b, h3⟩
  all_goals exact absurd e (by decide)
theorem made_bytes {v : List UInt8} {ps : List (List UInt8)} (h : Made 2 ps v) : ∃ s, ps = [s] ∧ v = bytesM s := by
  rcases h with ⟨e, _⟩ | ⟨x, _, e, _⟩ | ⟨b, e, _⟩ | ⟨s, _, h2, h3⟩ | ⟨e, _⟩ | ⟨e, _⟩
  · exact absurd e (by decide)
  · exact absurd e (by decide)
  · exact absurd e (by decide)
  · exact ⟨s, h2, h3⟩
  all_goals exact absurd e (by decide)
end Go.Proofs.YtcpfhfdgfcilaaaGreatDoor.Arr
namespace Go.Proofs.YtcpfhfdgfcilaaaGreatDoor.Arr
open Tree Val Sums

/-- All of them fit. -/
def AllFit (ns : List Nd) (g n : Nat) (vs : List (List UInt8)) : Prop := ∀ v ∈ vs, fitsF ns g n (mk v) = true
theorem kidRows_fit {ns : List Nd} (hm : May ns) {g n : Nat} {vs : List (List UInt8)} (hn : n < ns.length) (hg : ns.length - n ≤ g + 1) (h : AllFit ns (g + 1) n vs) {j : Nat} (hj : j < (kids ns n).length) : AllFit ns g (kAt ns n j) (kidRows ns n vs j) := by
  have hfit : ∀ v ∈ vs, (v = nullM ∧ (nd ns n).null = true) ∨ ∃ ps, Fit ns g n v ps := fun v hv => fits_inv (h v hv)
  have kk := kid_of hm hj
  have h8 := hm.most
  have hk : (nd ns n).kind = 3 ∨ (nd ns n).kind = 4 := by
    rcases kinds hm hn with e | e | e | e | e
    · have := hm.leaf n hn (by unfold Tree.isLeaf; rw [decide_eq_true_eq]; omega)
      rw [this] at hj
      cases hj
    · have := hm.leaf n hn (by unfold Tree.isLeaf; rw [decide_eq_true_eq]; omega)
      rw [this] at hj
      cases hj
    · have := hm.leaf n hn (by unfold Tree.isLeaf; rw [decide_eq_true_eq]; omega)
      rw [this] at hj
      cases hj
    · exact .inl e
    · exact .inr e
  intro p hp
  unfold kidRows at hp
  rcases hk with e | e
  · have h1 := hm.list n hn e
    obtain rfl : j = 0 := by omega
    rw [if_pos e, List.mem_flatten] at hp
    obtain ⟨l, hl, hp⟩ := hp
    obtain ⟨v, hv, rfl⟩ := List.mem_map.1 hl
    rcases hfit v hv with q | ⟨ps, q⟩
    · rw [q.1, tell_null] at hp
      cases hp
    · rw [q.tellV] at hp
      exact (q.list e).2 p hp
  · rw [if_neg (by omega)] at hp
    obtain ⟨v, hv, rfl⟩ := List.mem_map.1 hp
    rcases hfit v hv with q | ⟨ps, q⟩
    · rw [q.1, tell_null, if_pos (by decide)]
      exact (zero_ok hm 8 _ kk.2.1 (by omega)).2.2 g (by omega)
    · rw [q.tellV, if_neg (by omega)]
      exact (q.struct e).2 j hj
/-- Values that fit can be built if there are not too many, and those within can. -/
theorem build_iff {ns : List Nd} {f g n : Nat} {vs : List (List UInt8)} (h : AllFit ns (g + 1) n vs) : (buildF ns (f + 1) n vs).isSome = true ↔ vs.length ≤ 64 ∧ ∀ j, j < (kids ns n).length → (buildF ns f (kAt ns n j) (kidRows ns n vs j)).isSome = true := by
  have hfit : ∀ v ∈ vs, (v = nullM ∧ (nd ns n).null = true) ∨ ∃ ps, Fit ns g n v ps := fun v hv => fits_inv (h v hv)
  constructor
  · intro hs
    obtain ⟨a, ha⟩ := Option.isSome_iff_exists.1 hs
    obtain ⟨_, h1, h2, _⟩ := build_some ha
    refine ⟨h1, fun j hj => ?_⟩
    obtain ⟨b, hb, _⟩ := h2 j hj
    rw [hb]
    rfl
  · rintro ⟨h1, h2⟩
    have hd : (dataOf ns n vs).length ≤ 4096 := by
      unfold dataOf
      split
      · rw [length_all (fun v => Plain.low (wrapN (intV v)) 8) [], sumTo_congr (h := fun _ => 8) _ (fun j _ => Plain.length_low _ _), sumTo_const]
        omega
      · split
        · rw [length_bitsOf, List.length_map]
          omega
        · split
          · rename_i e
            rw [length_all (fun v => (tellV v).2.flatten) []]
            have hs := sumTo_le (g := fun j => ((tellV (vs.getD j [])).2.flatten).length) (h := fun _ => 16) vs.length (fun i hi => by
              rcases hfit _ (getD_mem' hi) with q | ⟨ps, hF⟩
              · rw [q.1, tell_null]
                exact Nat.zero_le _
              · have hmade := hF.made
                rw [e] at hmade
                obtain ⟨s, hps, _⟩ := made_bytes hmade
                have := hF.bytes e
                rw [hps, List.getD_cons_zero] at this
                rw [hF.tellV, hps]
                simp only [List.flatten_cons, List.flatten_nil, List.append_nil]
                exact this)
            rw [sumTo_const] at hs
            omega
          · exact Nat.zero_le _
    have he : (endsOf ns n vs).length ≤ 4096 := by
      by_cases hk : (nd ns n).kind = 2 ∨ (nd ns n).kind = 3
      · rw [length_endsOf hk]
        omega
      · unfold endsOf
        rw [if_neg hk]
        exact Nat.zero_le _
    rw [buildF, if_pos ⟨h1, List.all_eq_true.2 (fun j hj => h2 j (List.mem_range.1 hj)), hd, he⟩]
    rfl
end Go.Proofs.YtcpfhfdgfcilaaaGreatDoor.Arr
namespace Go.Proofs.YtcpfhfdgfcilaaaGreatDoor.Arr
open Tree Val Sums

theorem leaf_kids {ns : List Nd} (hm : May ns) {n : Nat} (hn : n < ns.length) (hk : Tree.isLeaf (nd ns n).kind = true) : kids ns n = [] := hm.leaf n hn hk
theorem leaf_build {ns : List Nd} (hm : May ns) {f g n : Nat} {vs : List (List UInt8)} (hn : n < ns.length) (hk : Tree.isLeaf (nd ns n).kind = true) (h : AllFit ns (g + 1) n vs) (h64 : vs.length ≤ 64) : buildF ns (f + 1) n vs = some (built ns f n vs) := by
  have : (buildF ns (f + 1) n vs).isSome = true := (build_iff h).2 ⟨h64, fun j hj => by rw [leaf_kids hm hn hk] at hj; cases hj⟩
  obtain ⟨a, ha⟩ := Option.isSome_iff_exists.1 this
  rw [ha, (build_some ha).1]
theorem valid_len (vs : List (List UInt8)) : (validOf vs).length = 0 ∨ (validOf vs).length = (vs.length + 7) / 8 ∧ ∃ v ∈ vs, v = nullM := by
  unfold validOf
  split
  · exact .inl rfl
  · rename_i c
    right
    rw [length_bitsOf, List.length_map]
    refine ⟨rfl, ?_⟩
    rw [List.all_eq_true] at c
    apply Classical.byContradiction
    intro q
    apply c
    intro v hv
    rw [decide_eq_true_eq]
    exact fun e => q ⟨v, hv, e⟩
end Go.Proofs.YtcpfhfdgfcilaaaGreatDoor.Arr
namespace Go.Proofs.YtcpfhfdgfcilaaaGreatDoor.Arr
open Go.ChangeShapes Go.WideShapes Go.ChangeAt Go.RowKit
open Tree Val

/-- Is a text not nothing's? -/
def isOn (s : ByteArray) : Bool := decide (bl s ≠ nullM)
theorem on_walk (s : ByteArray) : (s.toList == [110]) = !isOn s := by
  unfold isOn
  rw [ByteArray.toList_eq]
  by_cases c : bl s = nullM
  · rw [show s.data.toList = nullM from c, decide_eq_false (by simp [c])]
    rfl
  · rw [decide_eq_true c]
    exact beq_eq_false_iff_ne.2 c
def onTo (ss : List ByteArray) (k : Nat) : List Value := (ss.take k).map fun s => .bool (isOn s)
theorem ofTo_same (bs : List Bool) : ∀ k, Bit.ofTo bs k = Sums.ofTo bs k := by
  intro k
  induction k with
  | zero => rfl
  | succ k ih => rw [Bit.ofTo, Sums.ofTo, ih]
set_option maxRecDepth 20000 in
set_option maxHeartbeats 1600000 in
theorem validR (o : Option Addr) (cap : Nat) (ss : List ByteArray) (hn : ss.length ≤ 8796093021952) (w : World) (h : Hid (Texts.IsTx w o ss)) :
    Calls Tryz.prog 112 #[.slice o ss.length cap] w fun r w' => r = .returned (.string (mk (validOf (ss.map bl)))) ∧ Below w.heap.size w w' := by
  obtain ⟨i4, hi, hz0, hz1, hz2⟩ := info_parts Bit.info4
  go_enter Tryz.func112, Tryz.ntmps112
  go_wp2_with fail
  go_loopw [3, 4, 5] (fun v al t wr => ∃ (k : Nat) (ov : Option Addr) (cv : Nat), k ≤ ss.length ∧ t = .int .i64 (k : Int) ∧ v = .slice ov k cv ∧ al = .bool ((ss.take k).all isOn) ∧ wr.ownsRow w.heap.size 4 1 (.slice ov k cv) k (onTo ss k) ∧ Below w.heap.size w wr) (fun _ _ t _ => ss.length - (intOf t).toNat)
  case atStart => exact ⟨0, none, 0, Nat.zero_le _, rfl, rfl, by simp, by simpa [onTo] using World.ownsRow_nil w w.heap.size 4 1, Below.refl _ _⟩
  case round =>
    obtain ⟨k, ov, cv, hk, rfl, rfl, rfl, hown, hbl⟩ := hrel
    have HOWN : Hid (wr.ownsRow w.heap.size 4 1 (.slice ov k cv) k (onTo ss k)) := hown
    have BL : Hid (Below w.heap.size w wr) := hbl
    clear hown hbl
    by_cases hlt : k < ss.length
    · obtain ⟨x, rfl, hl⟩ := tx_at h.out (by omega)
      have HS0 : Hid (w.cell? (x.add k) = some (.string (ss.getD k ByteArray.empty))) := hl k hlt
      have hs := cell_later BL.out (hl k hlt)
      have i0 : (0 : Int) ≤ (k : Int) := Int.natCast_nonneg _
      have i1 : (k : Int) < ((ss.length : Nat) : Int) := by omega
      generalize hsk : ss.getD k ByteArray.empty = s at *
      have hz := BL.out.size
      have hown := HOWN.out
      have HW := on_walk s
      have e2 : ss.take (k + 1) = ss.take k ++ [s] := by
        rw [List.take_add_one, List.getElem?_eq_getElem hlt, Option.toList_some, ← hsk, List.getD_eq_getElem?_getD, List.getElem?_eq_getElem hlt, Option.getD_some]
      have HT1 : Hid (onTo ss (k + 1) = onTo ss k ++ [.bool (isOn s)]) := by unfold Hid onTo; rw [e2]; simp
      have HT2 : Hid ((ss.take (k + 1)).all isOn = ((ss.take k).all isOn && isOn s)) := by unfold Hid; rw [e2]; simp
      clear e2 hsk hl
      generalize (ss.take k).all isOn = A at *
      generalize isOn s = b at *
      go_wp2_with (at_builtin; refine wpList_append_own _ rfl (.tmp 12) (.tmp 18) 115 rfl w.heap.size 4 i4 (.bool false) 1 1 Tryz.underlying115 hi hz0 hz1 hz2 rfl (by decide) _ k _ rfl (hown.alloc _) ⟨wr.heap.size, 0, none⟩ 1 1 [.bool b] rfl rfl ?c1 ?c2 ?c3 ?c4 ?c5 ?_)
      case c1 =>
        intro j u hj
        match j, hj with
        | 0, hj => simp at hj; subst hj; simp [Addr.add]
      case c2 => intro u hu; simp at hu; subst hu; rfl
      case c3 => unfold maxLen; omega
      case c4 => omega
      case c5 => simp; omega
      intro u6 w6 hown6 hgrow _
      have B6 : Hid (Below w.heap.size w w6) := (BL.out.alloc hz _).grown hgrow (by simp; omega) (fun j hj => (hown.lt j hj).1)
      obtain ⟨o6, c6, rfl⟩ := ownsRow_len hown6
      have HO6 : Hid (w6.ownsRow w.heap.size 4 1 (.slice o6 (k + 1) c6) (k + 1) (onTo ss (k + 1))) := by
        unfold Hid
        rw [HT1.out]
        exact hown6
      clear hown6 hgrow hown hs HT1 HOWN
      have hs6 := cell_later B6.out HS0.out
      cases A
      · go_wp2
        go_roundw
        case rel => exact ⟨k + 1, o6, c6, by omega, by go_num, rfl, by rw [HT2.out]; rfl, HO6.out, B6.out⟩
        case measure => simp [intOf]; omega
      · go_wp2
        go_roundw
        case rel => exact ⟨k + 1, o6, c6, by omega, by go_num, rfl, by rw [HT2.out]; simp, HO6.out, B6.out⟩
        case measure => simp [intOf]; omega
    · obtain rfl : k = ss.length := by omega
      have HV : Hid (validOf (ss.map bl) = if ss.all isOn = true then [] else Sums.bitsOf (ss.map isOn)) := by
        unfold Hid validOf
        rw [List.all_map, List.map_map]
        rfl
      rw [List.take_length]
      have HO : Hid (wr.ownsRow w.heap.size 4 1 (.slice ov ss.length cv) ss.length ((ss.map isOn).map Value.bool)) := by
        have := HOWN.out
        unfold onTo at this
        rw [List.take_length] at this
        unfold Hid
        rw [List.map_map]
        exact this
      clear HOWN
      cases hA : ss.all isOn
      · rw [hA] at HV
        rcases HO.out.2 with ⟨e, e0⟩ | ⟨g, cp, cur, e, hg0, hg, hle, hm, hsz, hx⟩
        · have : ss = [] := List.length_eq_zero_iff.1 e0
          rw [this] at hA
          cases hA
        · injection e with e1 e2 e3
          subst e1 e3
          have HB : Hid (Calls Tryz.prog 115 #[.slice (some ⟨g, 0, none⟩) ss.length cv] wr fun r w' => r = .returned (.string ⟨(Bit.ofTo (ss.map isOn) ss.length).toArray⟩) ∧ Below wr.heap.size wr w') := by
            have := Bit.bitsOf g cv (ss.map isOn) wr (by rw [List.length_map]; omega) (Array.getElem?_eq_some_iff.1 hg).1 (fun i hi => by
              rw [List.length_map] at hi
              have e4 : (cur.toList.take (ss.length * 1))[i]? = ((ss.map isOn).map Value.bool)[i]? := by rw [hx]
              rw [List.getElem?_take, if_pos (by omega)] at e4
              simp only [World.cell?, hg]
              rw [show cur[i]? = cur.toList[i]? from by simp, e4]
              simp [List.getD_eq_getElem?_getD, hi])
            rw [List.length_map] at this
            exact this
          clear hx hg hsz
          go_wp2_with fail
          refine HB.out.mono ?_
          rintro e w7 ⟨rfl, b7⟩
          have B7 : Hid (Below w.heap.size w w7) := bel2 BL.out b7
          clear b7
          go_wp2
          go_ret
          refine ⟨ret_str ?_, B7.out⟩
          rw [HV.out, if_neg (by simp)]
          show _ = mk (Sums.ofTo (ss.map isOn) (ss.map isOn).length)
          rw [List.length_map]
          exact congrArg mk (ofTo_same _ _)
      · have HV2 : Hid (validOf (ss.map bl) = []) := by unfold Hid; rw [HV.out, hA, if_pos rfl]
        go_wp2
        go_ret
        exact ⟨ret_str (by rw [HV2.out]; rfl), BL.out⟩
end Go.Proofs.YtcpfhfdgfcilaaaGreatDoor.Arr
set_option linter.unusedVariables false
set_option linter.unusedSimpArgs false
namespace Go.Proofs.YtcpfhfdgfcilaaaGreatDoor.Arr
open Go.ChangeShapes Go.WideShapes Go.ChangeAt Go.RowKit
open Tree Val

/-- What the document's zero answers. -/
def ZeroC (f : Nat) : Prop := ∀ (ns : List Nd) (oT : Option Addr) (capT n : Nat) (w : World), n < ns.length → may ns = true → ns.length - n ≤ f → IsT w oT ns →
  Calls Tryz.prog 114 #[.agg #[.slice oT ns.length capT], .int .i64 (n : Int)] w fun r w' => r = .returned (.string (mk (zeroF ns f n))) ∧ Below w.heap.size w w'
set_option maxRecDepth 20000 in
set_option maxHeartbeats 3200000 in
theorem zero_step (f : Nat) (ih : Hid (ZeroC f)) : ZeroC (f + 1) := by
  intro ns oT capT n w hn hm hf ht
  obtain ⟨w1, e1, s1, c1, b1⟩ := boxed w (.slice oT ns.length capT) 24
  obtain ⟨x, rfl, hl⟩ := ht.some (by omega)
  have B1 : Hid (Below w.heap.size w w1) := b1
  have HT : Hid (IsT w (some x) ns) := ht
  have HC1 : Hid (w1.cell? ⟨w.heap.size, 0, none⟩ = some (.slice (some x) ns.length capT)) := c1
  have hl1 := hl.later b1
  have n0 := hl1.kind' n hn
  have n2 := hl1.null' n hn
  have j0 : (0 : Int) ≤ (n : Int) := Int.natCast_nonneg _
  have j1 : (n : Int) < (ns.length : Int) := by omega
  have HZ : Hid (zeroF ns (f + 1) n = if (nd ns n).null then nullM else if (nd ns n).kind = 0 then intM 0 else if (nd ns n).kind = 1 then boolM false else if (nd ns n).kind = 2 then bytesM [] else if (nd ns n).kind = 3 then listM [] else structM ((List.range (kids ns n).length).map fun i => zeroF ns f (kAt ns n i))) := rfl
  have HM : Hid (may ns = true) := hm
  have HN : Hid (n < ns.length) := hn
  generalize hV : zeroF ns (f + 1) n = V at *
  clear hV s1 b1 ht hl hl1
  cases hnull : (nd ns n).null
  rotate_left
  · rw [hnull] at n2 HZ
    have HV : Hid (V = nullM) := by unfold Hid; rw [HZ.out, if_pos rfl]
    clear hnull HZ
    go_enter Tryz.func114, Tryz.ntmps114
    go_wp2
    go_ret
    exact ⟨ret_str (by rw [HV.out]; rfl), B1.out⟩
  rw [hnull] at n2 HZ
  clear hnull
  rcases kinds (may_of hm) hn with hk | hk | hk | hk | hk
  · have HV : Hid (V = intM 0) := by unfold Hid; rw [HZ.out, if_neg (by simp), if_pos hk]
    rw [hk] at n0
    clear hk HZ
    go_enter Tryz.func114, Tryz.ntmps114
    go_wp2
    go_ret
    exact ⟨ret_str (by rw [HV.out]; rfl), B1.out⟩
  · have HV : Hid (V = boolM false) := by unfold Hid; rw [HZ.out, if_neg (by simp), if_neg (by omega), if_pos hk]
    rw [hk] at n0
    clear hk HZ
    go_enter Tryz.func114, Tryz.ntmps114
    go_wp2
    go_ret
    exact ⟨ret_str (by rw [HV.out]; rfl), B1.out⟩
  · have HV : Hid (V = bytesM []) := by unfold Hid; rw [HZ.out, if_neg (by simp), if_neg (by omega), if_neg (by omega), if_pos hk]
    rw [hk] at n0
    clear hk HZ
    go_enter Tryz.func114, Tryz.ntmps114
    go_wp2
    go_ret
    exact ⟨ret_str (by rw [HV.out]; rfl), B1.out⟩
  · have HV : Hid (V = listM []) := by unfold Hid; rw [HZ.out, if_neg (by simp), if_neg (by omega), if_neg (by omega), if_neg (by omega), if_pos hk]
    rw [hk] at n0
    clear hk HZ
    go_enter Tryz.func114, Tryz.ntmps114
    go_wp2
    go_ret
    exact ⟨ret_str (by rw [HV.out]; rfl), B1.out⟩
  · have HV : Hid (V = structM ((List.range (kids ns n).length).map fun i => zeroF ns f (kAt ns n i))) := by unfold Hid; rw [HZ.out, if_neg (by simp), if_neg (by omega), if_neg (by omega), if_neg (by omega), if_neg (by omega)]
    rw [hk] at n0
    have HKS : Hid (∀ v, Below w.heap.size w v → Calls Tryz.prog 83 #[.agg #[.slice (some x) ns.length capT], .int .i64 (n : Int)] v fun r w' => ∃ o c, r = .returned (.tuple #[.slice o (kids ns n).length c, .int .i64 0]) ∧ w'.ownsRow v.heap.size 3 1 (.slice o (kids ns n).length c) (kids ns n).length (ints (kids ns n)) ∧ Below v.heap.size v w') := fun v hv => by
      have hB : hasB ns (n : Int) = true := by unfold hasB; rw [hm, decide_eq_true (by omega)]; rfl
      have hKA : kidsA ns (n : Int) = kids ns n := by unfold kidsA; rw [if_pos hB]
      have := kidsR (some x) capT ns (n : Int) v (HT.out.later hv)
      rw [hB, hKA] at this
      exact this
    have HCALL : Hid (∀ i, i < (kids ns n).length → (∀ v, Below w.heap.size w v → Calls Tryz.prog 114 #[.agg #[.slice (some x) ns.length capT], .int .i64 ((kAt ns n i : Nat) : Int)] v fun e w' => e = .returned (.string (mk (zeroF ns f (kAt ns n i)))) ∧ Below v.heap.size v w') ∧ (zeroF ns f (kAt ns n i)).length ≤ 24) := fun i hi => by
      have hkk := kid_of (may_of hm) hi
      refine ⟨fun v hv => ih.out ns (some x) capT (kAt ns n i) v hkk.2.1 hm (by omega) (HT.out.later hv), ?_⟩
      have h1 := (zero_ok (may_of hm) f (kAt ns n i) hkk.2.1 (by omega)).2.1
      have h2 := Sums.hang_le (may_of hm) 3 hkk.2.1
      omega
    have hk8 : (kids ns n).length ≤ 8 := Nat.le_trans (length_kidsTo ns n ns.length) (may_of hm).most
    generalize hG : (fun i => zeroF ns f (kAt ns n i)) = G at *
    have HG : Hid (∀ j, zeroF ns f (kAt ns n j) = G j) := fun j => by rw [← hG]
    clear hk HZ ih hG
    go_enter Tryz.func114, Tryz.ntmps114
    go_wp2_with fail
    refine (HKS.out w1 B1.out).mono ?_
    rintro e w3 ⟨oK, cK, rfl, hown, b3⟩
    have B3 : Hid (Below w.heap.size w w3) := bel2 B1.out b3
    have HIK : Hid (IsI w3 w1.heap.size oK (kids ns n)) := own_ints hown
    have HC3 : Hid (w3.cell? ⟨w.heap.size, 0, none⟩ = some (.slice (some x) ns.length capT)) := cell_later b3 HC1.out
    have HMK : Hid ((kids ns n).length = (kids ns n).length) := rfl
    generalize hM2 : (kids ns n).length = M at *
    replace HMK : Hid ((kids ns n).length = M) := hM2
    clear b3 hown n0 n2 c1 e1 hM2
    go_wp2_with fail
    go_loopw [7, 8] (fun v t wr => ∃ (k : Nat) (ss : List ByteArray) (ov : Option Addr) (cv : Nat), k ≤ M ∧ t = .int .i64 (k : Int) ∧ v = .slice ov ss.length cv ∧ ss = told G k ∧ wr.ownsRow w3.heap.size 9 1 (.slice ov ss.length cv) ss.length (Texts.cellsT ss) ∧ Below w3.heap.size w3 wr) (fun _ t _ => M - (intOf t).toNat)
    case atStart => exact ⟨0, [], none, 0, Nat.zero_le _, rfl, by rw [List.length_nil], by simp [told], World.ownsRow_nil _ _ _ _, Below.refl _ _⟩
    case round =>
    obtain ⟨k, ss, ov, cv, hk, rfl, rfl, hss, hown, hbl⟩ := hrel
    have HOWN : Hid (wr.ownsRow w3.heap.size 9 1 (.slice ov ss.length cv) ss.length (Texts.cellsT ss)) := hown
    have HSS : Hid (ss = told G k) := hss
    have BL : Hid (Below w3.heap.size w3 wr) := hbl
    have HSL : Hid (ss.length = k) := by unfold Hid; rw [hss, length_told]
    clear hown hss hbl
    by_cases hlt : k < M
    · rcases HIK.out with hI | ⟨g, rfl, _, hrowK⟩
      · exact absurd hlt (by rw [← HMK.out, hI]; exact Nat.not_lt_zero _)
      have hg := hrowK.cell k (by rw [HMK.out]; exact hlt)
      have HM2 : Hid (∀ v, Below w.heap.size w v → Calls Tryz.prog 114 #[.agg #[.slice (some x) ns.length capT], .int .i64 ((kAt ns n k : Nat) : Int)] v fun e w' => e = .returned (.string (mk (G k))) ∧ Below v.heap.size v w') := fun v hv => by
        have := (HCALL.out k hlt).1 v hv
        rw [HG.out k] at this
        exact this
      have hg2 : w3.cell? ⟨g, k, none⟩ = some (.int .i64 ((kAt ns n k : Nat) : Int)) := hg
      generalize kAt ns n k = kn at *
      have KLA : Hid (∀ W', Below w3.heap.size w3 W' → (W'.cell? ⟨w.heap.size, 0, none⟩ = some (.slice (some x) ns.length capT) ∧ W'.cell? ⟨g, k, none⟩ = some (.int .i64 ((kn : Nat) : Int)))) := fun W' hb => ⟨cell_later hb HC3.out, cell_later hb hg2⟩
      have BLD : Hid (Below w3.heap.size w3 wr.drew) := bel2 BL.out (drewN_below wr 1)
      have BRD : Hid (Below w.heap.size w wr.drew) := bel2 B3.out BLD.out
      have hs64 : ss.length ≤ 64 := by have := HSL.out; omega
      have i0 : (0 : Int) ≤ (k : Int) := Int.natCast_nonneg _
      have i1 : (k : Int) < ((M : Nat) : Int) := by omega
      clear hg hg2 hrowK
      have KR : Hid (wr.drew.cell? ⟨w.heap.size, 0, none⟩ = some (.slice (some x) ns.length capT) ∧ wr.drew.cell? ⟨g, k, none⟩ = some (.int .i64 ((kn : Nat) : Int))) := KLA.out _ BLD.out
      go_wp2_with fail
      refine wp_region_noPanic ?_
      refine wp_region_held_drew (S := fun W : World => W.cell? ⟨w.heap.size, 0, none⟩ = some (.slice (some x) ns.length capT) ∧ W.cell? ⟨g, k, none⟩ = some (.int .i64 ((kn : Nat) : Int))) (by kernel_rfl) KR.out (fun h0 => ?_)
      refine take_at (i := 0) (d := some 41) (v := ?v0) rfl rfl (by kernel_rfl) (by kernel_rfl) (by kernel_rfl) (fun _ _ _ h => h) (Or.inl ⟨by rfl, ?y0⟩) h0 ?r0
      case y0 => (intro w' hSw; (try dsimp only at hSw); go_simp; try with_reducible rfl)
      try simp only [Act.put, List.setIfInBounds_toArray, List.set_cons_zero, List.set_cons_succ]
      refine take_at (i := 1) (d := some 42) (v := ?v1) rfl rfl (by kernel_rfl) (by kernel_rfl) (by kernel_rfl) (fun _ _ _ h => h) (Or.inl ⟨by rfl, ?y1⟩) h0 ?r1
      case y1 => (intro w' hSw; (try dsimp only at hSw); go_simp; try with_reducible rfl)
      try simp only [Act.put, List.setIfInBounds_toArray, List.set_cons_zero, List.set_cons_succ]
      refine take_at (i := 2) (d := some 43) (v := ?v2) rfl rfl (by kernel_rfl) (by kernel_rfl) (by kernel_rfl) (fun _ _ _ h => h) (Or.inl ⟨by rfl, ?y2⟩) h0 ?r2
      case y2 => (intro w' hSw; (try dsimp only at hSw); go_simp; try with_reducible rfl)
      try simp only [Act.put, List.setIfInBounds_toArray, List.set_cons_zero, List.set_cons_succ]
      refine take_at (i := 3) (d := some 44) (v := ?v3) rfl rfl (by kernel_rfl) (by kernel_rfl) (by kernel_rfl) (fun _ _ _ h => h) (Or.inl ⟨by rfl, ?y3⟩) h0 ?r3
      case y3 => (intro w' hSw; (try dsimp only at hSw); go_simp; try with_reducible rfl)
      try simp only [Act.put, List.setIfInBounds_toArray, List.set_cons_zero, List.set_cons_succ]
      refine take_at (i := 4) (d := some 45) (v := ?v4) rfl rfl (by kernel_rfl) (by kernel_rfl) (by kernel_rfl) (fun _ _ _ h => h) (Or.inl ⟨by rfl, ?y4⟩) h0 ?r4
      case y4 => (intro w' hSw; (try dsimp only at hSw); go_simp; try with_reducible rfl)
      try simp only [Act.put, List.setIfInBounds_toArray, List.set_cons_zero, List.set_cons_succ]
      refine take_at (i := 5) (d := some 46) (v := ?v5) rfl rfl (by kernel_rfl) (by kernel_rfl) (by kernel_rfl) (fun _ _ _ h => h) (Or.inl ⟨by rfl, ?y5⟩) h0 ?r5
      case y5 => (intro w' hSw; (try dsimp only at hSw); go_simp; try with_reducible rfl)
      try simp only [Act.put, List.setIfInBounds_toArray, List.set_cons_zero, List.set_cons_succ]
      refine wpAnyH_ready (rs := [6]) (by kernel_rfl) (by simp) ?_
      refine AllReadyH.cons rfl (fun K hK => ?_) AllReadyH.nil
      go_simp
      go_at_call 114
      refine (HM2.out _ BRD.out).mono ?_
      rintro e w7 ⟨rfl, b7⟩
      have B7 : Hid (Below w3.heap.size w3 w7) := bel2 BLD.out b7
      have K7 : Hid (w7.cell? ⟨w.heap.size, 0, none⟩ = some (.slice (some x) ns.length capT) ∧ w7.cell? ⟨g, k, none⟩ = some (.int .i64 ((kn : Nat) : Int))) := KLA.out _ B7.out
      have HO7 : Hid (w7.ownsRow w3.heap.size 9 1 (.slice ov ss.length cv) ss.length (Texts.cellsT ss)) := ownsRow_grown HOWN.out (bel2 (drewN_below wr 1) b7)
      clear b7
      refine hK.out _ _ K7.out (fun h1 => ?_)
      clear hK K
      try simp only [Act.put, List.setIfInBounds_toArray, List.set_cons_zero, List.set_cons_succ]
      refine wpAnyH_ready (rs := [7]) (by kernel_rfl) (by simp) ?_
      refine AllReadyH.cons rfl (fun K hK => ?_) AllReadyH.nil
      go_simp
      have B8 : Hid (Below w3.heap.size w3 (w7.alloc (.cells #[.string (mk (G k))] 9))) := B7.out.alloc B7.out.size _
      have K8 : Hid ((w7.alloc (.cells #[.string (mk (G k))] 9)).cell? ⟨w.heap.size, 0, none⟩ = some (.slice (some x) ns.length capT) ∧ (w7.alloc (.cells #[.string (mk (G k))] 9)).cell? ⟨g, k, none⟩ = some (.int .i64 ((kn : Nat) : Int))) := KLA.out _ B8.out
      refine hK.out _ _ K8.out (fun h2 => ?_)
      clear hK K
      try simp only [Act.put, List.setIfInBounds_toArray, List.set_cons_zero, List.set_cons_succ]
      refine wpAnyH_ready (rs := [8]) (by kernel_rfl) (by simp) ?_
      refine AllReadyH.cons rfl (fun K hK => ?_) AllReadyH.nil
      obtain ⟨o9, c9, w9, hr9, hown9, b9⟩ := append_text HO7.out B7.out.size (by omega) (mk (G k)) rfl
      have B9 : Hid (Below w3.heap.size w3 w9) := B7.out.trans b9
      have K9 : Hid (w9.cell? ⟨w.heap.size, 0, none⟩ = some (.slice (some x) ns.length capT) ∧ w9.cell? ⟨g, k, none⟩ = some (.int .i64 ((kn : Nat) : Int))) := KLA.out _ B9.out
      have HO9 : Hid (w9.ownsRow w3.heap.size 9 1 (.slice o9 (ss.length + 1) c9) (ss.length + 1) (Texts.cellsT (ss ++ [mk (G k)]))) := hown9
      clear hown9 b9
      rw [if_pos (by rfl)]
      refine upon_append (s := .tmp 41) (x := .tmp 48) rfl rfl rfl rfl hr9 ?_
      refine hK.out _ _ K9.out (fun h3 => ?_)
      clear hK K
      try simp only [Act.put, List.setIfInBounds_toArray, List.set_cons_zero, List.set_cons_succ]
      refine take_at (i := 9) (d := some 7) (v := ?v9) rfl rfl (by kernel_rfl) (by kernel_rfl) (by kernel_rfl) (fun _ _ _ h => h) (Or.inl ⟨by rfl, ?y9⟩) h3 ?r9
      case y9 => (intro w' hSw; (try dsimp only at hSw); go_simp; try with_reducible rfl)
      try simp only [Act.put, List.setIfInBounds_toArray, List.set_cons_zero, List.set_cons_succ]
      refine wpAnyH_done (by kernel_rfl) ?_ _
      refine NoPanic.normal ?_
      have HSN : Hid (ss ++ [mk (G k)] = told G (k + 1) ∧ (ss ++ [mk (G k)]).length = ss.length + 1) := ⟨by rw [told_snoc, HSS.out], by simp⟩
      clear h0 h1 h2 h3 KR K7 K8 K9 HM2
      generalize ss ++ [mk (G k)] = ss2 at *
      rw [← HSN.out.2] at HO9
      rw [← HSN.out.2]
      go_wp2
      go_roundw
      case rel => exact ⟨k + 1, ss2, o9, c9, by omega, by go_num, rfl, HSN.out.1, HO9.out, B9.out⟩
      case measure => simp [intOf]; omega
    · have hkE : k = M := by omega
      have HTX : Hid (Texts.IsTx wr ov ss) := Texts.own_texts HOWN.out
      have HPR2 : Hid (V = structM (ss.map bl)) := by
        unfold Hid
        rw [HV.out, HSS.out, told_bl, hkE]
      have hfl : (flat ss).length ≤ 140737488355328 := by
        have := told_flat G 24 k (fun j hj => by rw [← HG.out j]; exact (HCALL.out j (by omega)).2)
        rw [← HSS.out] at this
        omega
      have hs64 : ss.length ≤ 140737488355328 := by have := HSL.out; omega
      subst hkE
      go_wp2_with fail
      refine (structR ov cv ss hfl hs64 wr HTX.out).mono ?_
      rintro e w6 ⟨rfl, rfl⟩
      go_wp2
      go_ret
      exact ⟨ret_str (by rw [HPR2.out]; rfl), bel2 B3.out BL.out⟩
theorem zeroA : ∀ f, ZeroC f := by
  intro f
  induction f with
  | zero => intro ns oT capT n w hn hm hf; omega
  | succ f ih => exact zero_step f ih
end Go.Proofs.YtcpfhfdgfcilaaaGreatDoor.Arr
namespace Go.Proofs.YtcpfhfdgfcilaaaGreatDoor.Arr
open Tree Val Sums

def totalV (ns : List Nd) (n : Nat) (vs : List (List UInt8)) : Nat := sumTo (fun j => sizeV ns n (vs.getD j [])) vs.length
/-- The ends, but for the last one. -/
def endsQ (ns : List Nd) (n : Nat) (vs : List (List UInt8)) : List UInt8 := ((List.range vs.length).map fun i => Plain.low (sumTo (fun j => sizeV ns n (vs.getD j [])) i) 4).flatten
theorem getD_snoc_lt (vs : List (List UInt8)) (v : List UInt8) {j : Nat} (h : j < vs.length) : (vs ++ [v]).getD j [] = vs.getD j [] := by
  rw [List.getD_eq_getElem?_getD, List.getD_eq_getElem?_getD, List.getElem?_append_left h]
theorem sum_snoc (ns : List Nd) (n : Nat) (vs : List (List UInt8)) (v : List UInt8) {i : Nat} (h : i ≤ vs.length) : sumTo (fun j => sizeV ns n ((vs ++ [v]).getD j [])) i = sumTo (fun j => sizeV ns n (vs.getD j [])) i :=
  sumTo_congr _ fun j hj => by rw [getD_snoc_lt vs v (by omega)]
theorem endsQ_snoc (ns : List Nd) (n : Nat) (vs : List (List UInt8)) (v : List UInt8) : endsQ ns n (vs ++ [v]) = endsQ ns n vs ++ Plain.low (totalV ns n vs) 4 := by
  unfold endsQ
  rw [List.length_append, List.length_singleton, List.range_succ, List.map_append, List.flatten_append]
  congr 1
  · congr 1
    refine List.map_congr_left fun i hi => ?_
    rw [sum_snoc ns n vs v (Nat.le_of_lt (List.mem_range.1 hi))]
  · rw [List.map_singleton, List.flatten_singleton, sum_snoc ns n vs v (Nat.le_refl _)]
    rfl
theorem endsOf_all {ns : List Nd} {n : Nat} (hk : (nd ns n).kind = 2 ∨ (nd ns n).kind = 3) (vs : List (List UInt8)) : endsOf ns n vs = endsQ ns n vs ++ Plain.low (totalV ns n vs) 4 := by
  unfold endsOf endsQ totalV
  rw [if_pos hk, List.range_succ, List.map_append, List.flatten_append, List.map_singleton, List.flatten_singleton]
theorem endsOf_none {ns : List Nd} {n : Nat} (h2 : (nd ns n).kind ≠ 2) (h3 : (nd ns n).kind ≠ 3) (vs : List (List UInt8)) : endsOf ns n vs = [] := by
  unfold endsOf
  rw [if_neg (by omega)]
theorem dataOf_none {ns : List Nd} {n : Nat} (h0 : (nd ns n).kind ≠ 0) (h1 : (nd ns n).kind ≠ 1) (h2 : (nd ns n).kind ≠ 2) (vs : List (List UInt8)) : dataOf ns n vs = [] := by
  unfold dataOf
  rw [if_neg h0, if_neg h1, if_neg h2]
theorem data0_snoc {ns : List Nd} {n : Nat} (hk : (nd ns n).kind = 0) (vs : List (List UInt8)) (v : List UInt8) : dataOf ns n (vs ++ [v]) = dataOf ns n vs ++ Plain.low (wrapN (intV v)) 8 := by
  unfold dataOf
  rw [if_pos hk, if_pos hk]
  simp
theorem data2_snoc {ns : List Nd} {n : Nat} (hk : (nd ns n).kind = 2) (vs : List (List UInt8)) (v : List UInt8) : dataOf ns n (vs ++ [v]) = dataOf ns n vs ++ (tellV v).2.flatten := by
  unfold dataOf
  rw [if_neg (by omega), if_neg (by omega), if_pos hk, if_neg (by omega), if_neg (by omega), if_pos hk]
  simp
theorem data1_all {ns : List Nd} {n : Nat} (hk : (nd ns n).kind = 1) (vs : List (List UInt8)) : dataOf ns n vs = bitsOf (vs.map fun v => decide (v = [116])) := by
  unfold dataOf
  rw [if_neg (by omega), if_pos hk]
theorem total2 {ns : List Nd} {n : Nat} (hk : (nd ns n).kind = 2) (vs : List (List UInt8)) : totalV ns n vs = (dataOf ns n vs).length := by
  unfold totalV dataOf
  rw [if_neg (by omega), if_neg (by omega), if_pos hk, length_all (fun v => (tellV v).2.flatten) []]
  refine sumTo_congr _ fun j _ => ?_
  rw [sizeV, if_pos hk]
theorem total3 {ns : List Nd} {n : Nat} (hk : (nd ns n).kind = 3) (vs : List (List UInt8)) (j : Nat) : totalV ns n vs = (kidRows ns n vs j).length := by
  unfold totalV kidRows
  rw [if_pos hk, length_all (fun v => (tellV v).2) []]
  refine sumTo_congr _ fun j _ => ?_
  rw [sizeV, if_neg (by omega)]
theorem kid3_snoc {ns : List Nd} {n : Nat} (hk : (nd ns n).kind = 3) (vs : List (List UInt8)) (v : List UInt8) (j : Nat) : kidRows ns n (vs ++ [v]) j = kidRows ns n vs j ++ (tellV v).2 := by
  unfold kidRows
  rw [if_pos hk, if_pos hk]
  simp
/-- What a struct's kid has of a value. -/
def kidV (ns : List Nd) (n : Nat) (v : List UInt8) (j : Nat) : List UInt8 := if (tellV v).1 < 0 then zeroF ns 8 (kAt ns n j) else (tellV v).2.getD j []
theorem kid4_snoc {ns : List Nd} {n : Nat} (hk : (nd ns n).kind ≠ 3) (vs : List (List UInt8)) (v : List UInt8) (j : Nat) : kidRows ns n (vs ++ [v]) j = kidRows ns n vs j ++ [kidV ns n v j] := by
  unfold kidRows
  rw [if_neg hk, if_neg hk]
  simp [kidV]
theorem kidRows_nil (ns : List Nd) (n j : Nat) : kidRows ns n [] j = [] := by
  unfold kidRows
  split <;> rfl
theorem kid4_length {ns : List Nd} {n : Nat} (hk : (nd ns n).kind ≠ 3) (vs : List (List UInt8)) (j : Nat) : (kidRows ns n vs j).length = vs.length := by
  unfold kidRows
  rw [if_neg hk, List.length_map]
theorem length_data0 {ns : List Nd} {n : Nat} (hk : (nd ns n).kind = 0) : ∀ vs : List (List UInt8), (dataOf ns n vs).length = 8 * vs.length := by
  intro vs
  unfold dataOf
  rw [if_pos hk, length_all (fun v => Plain.low (wrapN (intV v)) 8) [], sumTo_congr (h := fun _ => 8) _ (fun j _ => Plain.length_low _ _), sumTo_const]
theorem length_endsQ (ns : List Nd) (n : Nat) (vs : List (List UInt8)) : (endsQ ns n vs).length = 4 * vs.length := by
  unfold endsQ
  have := length_all (fun x => Plain.low x 4) 0 ((List.range vs.length).map fun i => sumTo (fun j => sizeV ns n (vs.getD j [])) i)
  rw [List.map_map] at this
  rw [show ((fun x => Plain.low x 4) ∘ fun i => sumTo (fun j => sizeV ns n (vs.getD j [])) i) = fun i => Plain.low (sumTo (fun j => sizeV ns n (vs.getD j [])) i) 4 from rfl] at this
  rw [this, sumTo_congr (h := fun _ => 4) _ (fun j _ => Plain.length_low _ _), sumTo_const, List.length_map, List.length_range]
theorem take_snoc (vs : List (List UInt8)) {k : Nat} (h : k < vs.length) : vs.take (k + 1) = vs.take k ++ [vs.getD k []] := by
  rw [List.take_add_one, List.getElem?_eq_getElem h, Option.toList_some, List.getD_eq_getElem?_getD, List.getElem?_eq_getElem h, Option.getD_some]
/-- A value that fits is told apart. -/
theorem tell_fit {ns : List Nd} {g n : Nat} {v : List UInt8} (h : fitsF ns (g + 1) n (mk v) = true) : partsS (mk v) = some ((tellV v).1, (tellV v).2.map mk) := by
  rcases fits_inv h with ⟨rfl, _⟩ | ⟨ps, hF⟩
  · rw [tell_null, partsS, mk, bl_mk, parts_null]
    rfl
  · rw [hF.tellV, partsS, mk, bl_mk, hF.tell]
    rfl
/-- The four ways of what fits. -/
structure FitV (ns : List Nd) (n : Nat) (v : List UInt8) : Prop where
  kind : (tellV v).1 = -1 ∧ (tellV v).2 = [] ∧ v = nullM ∨ (tellV v).1 = (nd ns n).kind ∧ v ≠ nullM
  int : (nd ns n).kind = 0 → (tellV v).1 = 0 → ∃ x, in64 x ∧ (tellV v).2 = [intD x] ∧ intV v = x
  bool : (nd ns n).kind = 1 → v = nullM ∨ ∃ b, v = boolM b
  bytes : (nd ns n).kind = 2 → (tellV v).2.flatten.length ≤ 16 ∧ (tellV v).2.length ≤ 1
  list : (nd ns n).kind = 3 → (tellV v).2.length ≤ 64
  struct : (nd ns n).kind = 4 → 0 ≤ (tellV v).1 → (tellV v).2.length = (kids ns n).length
theorem fitV {ns : List Nd} (hm : May ns) {g n : Nat} (hn : n < ns.length) {v : List UInt8} (h : fitsF ns (g + 1) n (mk v) = true) : FitV ns n v := by
  rcases fits_inv h with ⟨rfl, _⟩ | ⟨ps, hF⟩
  · have e := tell_null
    refine ⟨.inl ⟨by rw [e], by rw [e], rfl⟩, fun _ c => ?_, fun _ => .inl rfl, fun _ => ?_, fun _ => ?_, fun _ c => ?_⟩
    · rw [e] at c; cases c
    · rw [e]; exact ⟨Nat.zero_le _, Nat.zero_le _⟩
    · rw [e]; exact Nat.zero_le _
    · rw [e] at c; exact absurd c (by decide)
  · have e := hF.tellV
    have hM := hF.made
    refine ⟨.inr ⟨by rw [e], hF.ne_null hm hn⟩, fun hk _ => ?_, fun hk => ?_, fun hk => ?_, fun hk => ?_, fun hk _ => ?_⟩
    · rw [hk] at hM
      obtain ⟨x, hx, hps, hv⟩ := made_int hM
      refine ⟨x, hx, by rw [e, hps], ?_⟩
      unfold intV
      rw [e, hps]
      simp only
      rw [if_neg (by omega), List.getD_cons_zero, numOf_intD x hx]
      rfl
    · rw [hk] at hM
      exact .inr (made_bool hM)
    · rw [hk] at hM
      obtain ⟨s, hps, _⟩ := made_bytes hM
      have := hF.bytes hk
      rw [hps, List.getD_cons_zero] at this
      rw [e, hps]
      simp only [List.flatten_cons, List.flatten_nil, List.append_nil, List.length_cons, List.length_nil]
      omega
    · rw [e]
      exact (hF.list hk).1
    · rw [e]
      exact (hF.struct hk).1
theorem length_data2 {ns : List Nd} {n : Nat} (hk : (nd ns n).kind = 2) (vs : List (List UInt8)) (h : ∀ v ∈ vs, FitV ns n v) : ∀ k, k ≤ vs.length → (dataOf ns n (vs.take k)).length ≤ 16 * k := by
  intro k
  induction k with
  | zero => intro _; rw [List.take_zero]; unfold dataOf; rw [if_neg (by omega), if_neg (by omega), if_pos hk]; exact Nat.le_refl _
  | succ k ih =>
    intro hle
    rw [take_snoc vs (by omega), data2_snoc hk, List.length_append]
    have := ((h _ (getD_mem' (i := k) (by omega))).bytes hk).1
    have := ih (by omega)
    omega
theorem length_kid3 {ns : List Nd} {n : Nat} (hk : (nd ns n).kind = 3) (vs : List (List UInt8)) (h : ∀ v ∈ vs, FitV ns n v) (j : Nat) : ∀ k, k ≤ vs.length → (kidRows ns n (vs.take k) j).length ≤ 64 * k := by
  intro k
  induction k with
  | zero => intro _; rw [List.take_zero, kidRows_nil]; exact Nat.le_refl _
  | succ k ih =>
    intro hle
    rw [take_snoc vs (by omega), kid3_snoc hk, List.length_append]
    have := (h _ (getD_mem' (i := k) (by omega))).list hk
    have := ih (by omega)
    omega
end Go.Proofs.YtcpfhfdgfcilaaaGreatDoor.Arr
