/-
  Several texts in one: Lists one behind the other: what stands where; numbers in a row of bytes; truths in bits: plain facts. · An array of values: what is built of them; values that fit, taken apart; a node's zero: plain functions and facts. · What is built of values that fit may be, and is read as these values. · What is built of values that fit may be, and is read as these values: the whole. · What is read of an array that may be can be built again. · Leaves by a dictionary and by runs: what is made of values may be, and is read as these values. · The bits of values that are there: the document's valid: contract. · A node's zero: the document's zero: contract. · What is built, value by value: plain facts.
-/
import Derived.WalkKit
import Derived.Test.YtcpfhfdgfcilaaaGreatDoorB01
import Derived.Test.YtcpfhfdgfcilaaaGreatDoorB02
import Derived.Test.YtcpfhfdgfcilaaaGreatDoorB03
import Derived.Test.YtcpfhfdgfcilaaaGreatDoorB04
import Derived.Test.YtcpfhfdgfcilaaaGreatDoorB12
import Derived.Test.YtcpfhfdgfcilaaaGreatDoorB14
import Derived.Test.YtcpfhfdgfcilaaaGreatDoorB13
import Derived.Test.YtcpfhfdgfcilaaaGreatDoorB15
import Derived.Maps.AppendAt
import Derived.OneCell
import Derived.Laws.OwnMore
namespace Go.Proofs.YtcpfhfdgfcilaaaGreatDoor.Sums

theorem split_at {α β : Type} (h : α → List β) (d : α) : ∀ (l : List α) (i : Nat), i < l.length → ∃ p q, (l.map h).flatten = p ++ (h (l.getD i d) ++ q) ∧ p.length = sumTo (fun j => (h (l.getD j d)).length) i
  | [], i, hi => absurd hi (Nat.not_lt_zero _)
  | x :: l, 0, _ => ⟨[], (l.map h).flatten, by simp, rfl⟩
  | x :: l, i + 1, hi => by
    obtain ⟨p, q, h1, h2⟩ := split_at h d l i (by simpa using hi)
    refine ⟨h x ++ p, q, ?_, ?_⟩
    · rw [List.map_cons, List.flatten_cons, h1, List.getD_cons_succ, List.append_assoc]
    · have hs := sumTo_shift (fun j => (h ((x :: l).getD j d)).length) 1 i
      rw [List.length_append, h2, Nat.add_comm i 1, ← hs]
      have e : sumTo (fun j => (h ((x :: l).getD j d)).length) 1 = (h x).length := by
        show 0 + (h x).length = _
        omega
      rw [e, Nat.add_comm]
      congr 1
      refine sumTo_congr _ fun j _ => ?_
      rw [Nat.add_comm 1 j, List.getD_cons_succ]
theorem length_all {α β : Type} (h : α → List β) (d : α) : ∀ (l : List α), (l.map h).flatten.length = sumTo (fun j => (h (l.getD j d)).length) l.length
  | [] => rfl
  | x :: l => by
    have hs := sumTo_shift (fun j => (h ((x :: l).getD j d)).length) 1 l.length
    rw [List.map_cons, List.flatten_cons, List.length_append, length_all h d l, List.length_cons, Nat.add_comm l.length 1, ← hs]
    have e : sumTo (fun j => (h ((x :: l).getD j d)).length) 1 = (h x).length := by
      show 0 + (h x).length = _
      omega
    rw [e, Nat.add_comm]
    congr 1
    refine sumTo_congr _ fun j _ => ?_
    rw [Nat.add_comm 1 j, List.getD_cons_succ]
/-- What one of them is, cut out. -/
theorem cut_at {α β : Type} (h : α → List β) (d : α) (l : List α) (i : Nat) (hi : i < l.length) : (((l.map h).flatten).take (sumTo (fun j => (h (l.getD j d)).length) (i + 1))).drop (sumTo (fun j => (h (l.getD j d)).length) i) = h (l.getD i d) := by
  obtain ⟨p, q, h1, h2⟩ := split_at h d l i hi
  rw [h1, sumTo, ← h2, ← List.append_assoc, List.take_append_of_le_length (by rw [List.length_append]; exact Nat.le_refl _), List.take_of_length_le (by rw [List.length_append]; exact Nat.le_refl _), List.drop_append_of_le_length (Nat.le_refl _), List.drop_length]
  rfl
/-- What stands at a place within one of them. -/
theorem at_within {α β : Type} (h : α → List β) (d : α) (e : β) (l : List α) (i j : Nat) (hi : i < l.length) (hj : j < (h (l.getD i d)).length) : ((l.map h).flatten).getD (sumTo (fun j => (h (l.getD j d)).length) i + j) e = (h (l.getD i d)).getD j e := by
  obtain ⟨p, q, h1, h2⟩ := split_at h d l i hi
  rw [h1, ← h2]
  generalize h (l.getD i d) = m at hj
  rw [List.getD_eq_getElem?_getD, List.getElem?_append_right (by omega), List.getElem?_append_left (by omega), List.getD_eq_getElem?_getD, show p.length + j - p.length = j from by omega]
theorem val_chunk {α : Type} (g : α → Nat) (c : Nat) (d : α) (l : List α) (i : Nat) (hi : i < l.length) (hx : g (l.getD i d) < 256 ^ c) : Plain.val ((l.map fun x => Plain.low (g x) c).flatten) (c * i) c = g (l.getD i d) := by
  obtain ⟨p, q, h1, h2⟩ := split_at (fun x => Plain.low (g x) c) d l i hi
  have h3 : p.length = c * i := by
    rw [h2, sumTo_congr (h := fun _ => c) i (fun j _ => Plain.length_low _ _), sumTo_const]
  rw [h1, ← h3, Plain.val_behind, Nat.mod_eq_of_lt hx]
/-- Truths as bits. -/
def ofTo (bs : List Bool) : Nat → List UInt8
  | 0 => List.replicate ((bs.length + 7) / 8) 0
  | k + 1 => if bs.getD k false then BitP.setB (ofTo bs k) k true else ofTo bs k
theorem length_ofTo (bs : List Bool) (k : Nat) : (ofTo bs k).length = (bs.length + 7) / 8 := by
  induction k with
  | zero => simp [ofTo]
  | succ k ih => rw [ofTo]; split <;> simp [BitP.length_setB, ih]
theorem bit_ofTo (bs : List Bool) (k : Nat) (h : k ≤ bs.length) (i : Nat) : BitP.bit (ofTo bs k) i = if i < k then bs.getD i false else false := by
  induction k with
  | zero => rw [ofTo, BitP.bit_zeros]; rfl
  | succ k ih =>
    rw [ofTo]
    cases hb : bs.getD k false
    · simp only [Bool.false_eq_true, if_false]
      rw [ih (by omega)]
      by_cases h1 : i = k
      · subst h1; rw [if_neg (by omega), if_pos (by omega), hb]
      · by_cases h2 : i < k
        · rw [if_pos h2, if_pos (by omega)]
        · rw [if_neg h2, if_neg (by omega)]
    · simp only [if_true]
      rw [BitP.bit_setB _ _ _ _ (by rw [length_ofTo]; omega), ih (by omega)]
      by_cases h1 : i = k
      · subst h1; rw [if_pos rfl, if_pos (by omega), hb]
      · by_cases h2 : i < k
        · rw [if_neg h1, if_pos h2, if_pos (by omega)]
        · rw [if_neg h1, if_neg h2, if_neg (by omega)]
def bitsOf (bs : List Bool) : List UInt8 := ofTo bs bs.length
theorem length_bitsOf (bs : List Bool) : (bitsOf bs).length = (bs.length + 7) / 8 := length_ofTo bs _
theorem bit_bitsOf (bs : List Bool) (i : Nat) (h : i < bs.length) : BitP.bit (bitsOf bs) i = bs.getD i false := by
  unfold bitsOf
  rw [bit_ofTo bs _ (Nat.le_refl _), if_pos h]
end Go.Proofs.YtcpfhfdgfcilaaaGreatDoor.Sums
namespace Go.Proofs.YtcpfhfdgfcilaaaGreatDoor.Arr
open Tree Val Sums

/-- A value's kind and parts; of what is none nothing. -/
def tellV (v : List UInt8) : Int × List (List UInt8) := (partsM v).getD (0, [])
/-- A node's zero. -/
def zeroF (ns : List Nd) : Nat → Nat → List UInt8
  | 0, _ => []
  | f + 1, n =>
    if (nd ns n).null then nullM
    else if (nd ns n).kind = 0 then intM 0
    else if (nd ns n).kind = 1 then boolM false
    else if (nd ns n).kind = 2 then bytesM []
    else if (nd ns n).kind = 3 then listM []
    else structM ((List.range (kids ns n).length).map fun i => zeroF ns f (kAt ns n i))
/-- The bits of values that are there. -/
def validOf (vs : List (List UInt8)) : List UInt8 := if vs.all (fun v => decide (v ≠ nullM)) then [] else bitsOf (vs.map fun v => decide (v ≠ nullM))
/-- A value's whole number; of nothing 0. -/
def intV (v : List UInt8) : Int := if (tellV v).1 < 0 then 0 else (numOf ((tellV v).2.getD 0 [])).getD 0
def wrapN (x : Int) : Nat := (x % 18446744073709551616).toNat
def dataOf (ns : List Nd) (n : Nat) (vs : List (List UInt8)) : List UInt8 :=
  if (nd ns n).kind = 0 then (vs.map fun v => Plain.low (wrapN (intV v)) 8).flatten
  else if (nd ns n).kind = 1 then bitsOf (vs.map fun v => decide (v = [116]))
  else if (nd ns n).kind = 2 then (vs.map fun v => (tellV v).2.flatten).flatten
  else []
/-- How much each value takes, where there are ends. -/
def sizeV (ns : List Nd) (n : Nat) (v : List UInt8) : Nat := if (nd ns n).kind = 2 then (tellV v).2.flatten.length else (tellV v).2.length
def endsOf (ns : List Nd) (n : Nat) (vs : List (List UInt8)) : List UInt8 :=
  if (nd ns n).kind = 2 ∨ (nd ns n).kind = 3 then ((List.range (vs.length + 1)).map fun i => Plain.low (sumTo (fun j => sizeV ns n (vs.getD j [])) i) 4).flatten else []
/-- A kid's values. -/
def kidRows (ns : List Nd) (n : Nat) (vs : List (List UInt8)) (j : Nat) : List (List UInt8) :=
  if (nd ns n).kind = 3 then (vs.map fun v => (tellV v).2).flatten
  else vs.map fun v => if (tellV v).1 < 0 then zeroF ns 8 (kAt ns n j) else (tellV v).2.getD j []
/-- An array of values that fit; none: it is too much. -/
def buildF (ns : List Nd) : Nat → Nat → List (List UInt8) → Option Arr
  | 0, _, _ => none
  | f + 1, n, vs =>
    if vs.length ≤ 64 ∧ ((List.range (kids ns n).length).all fun j => (buildF ns f (kAt ns n j) (kidRows ns n vs j)).isSome) = true ∧ (dataOf ns n vs).length ≤ 4096 ∧ (endsOf ns n vs).length ≤ 4096 then
      some ⟨0, 0, vs.length, mk (validOf vs), mk (endsOf ns n vs), mk (dataOf ns n vs), (List.range (kids ns n).length).map fun j => (buildF ns f (kAt ns n j) (kidRows ns n vs j)).getD nil⟩
    else none
/-- A value that fits, taken apart. -/
structure Fit (ns : List Nd) (g n : Nat) (v : List UInt8) (ps : List (List UInt8)) : Prop where
  tell : partsM v = some ((nd ns n).kind, ps)
  made : Made (nd ns n).kind ps v
  bytes : (nd ns n).kind = 2 → (ps.getD 0 []).length ≤ 16
  list : (nd ns n).kind = 3 → ps.length ≤ 64 ∧ ∀ p ∈ ps, fitsF ns g (kAt ns n 0) (mk p) = true
  struct : (nd ns n).kind = 4 → ps.length = (kids ns n).length ∧ ∀ i, i < (kids ns n).length → fitsF ns g (kAt ns n i) (mk (ps.getD i [])) = true
theorem partsS_some {v : List UInt8} {k : Int} {qs : List ByteArray} (h : partsS (mk v) = some (k, qs)) : ∃ ps, partsM v = some (k, ps) ∧ qs = ps.map mk := by
  unfold partsS mk at h
  rw [bl_mk] at h
  cases c : partsM v with
  | none => rw [c] at h; cases h
  | some y =>
    obtain ⟨k', ps⟩ := y
    rw [c] at h
    simp only [Option.map_some, Option.some.injEq, Prod.mk.injEq] at h
    obtain ⟨rfl, rfl⟩ := h
    exact ⟨ps, rfl, rfl⟩
theorem isVal_of {v : List UInt8} {y : Int × List (List UInt8)} (h : partsM v = some y) : isVal v := by
  unfold partsM at h
  split at h
  · rename_i c
    exact c
  · cases h
theorem fits_inv {ns : List Nd} {g n : Nat} {v : List UInt8} (h : fitsF ns (g + 1) n (mk v) = true) : (v = nullM ∧ (nd ns n).null = true) ∨ ∃ ps, Fit ns g n v ps := by
  rw [fitsF] at h
  cases c : partsS (mk v) with
  | none => rw [c] at h; cases h
  | some y =>
    obtain ⟨k, qs⟩ := y
    obtain ⟨ps, h1, rfl⟩ := partsS_some c
    rw [c] at h
    obtain ⟨k', ps', h2, h3⟩ := parts_made (isVal_of h1)
    rw [h1] at h2
    injection h2 with h2
    injection h2 with e1 e2
    subst e1 e2
    replace h : (if k < 0 then (nd ns n).null else if k ≠ (nd ns n).kind then false else if k = 2 then decide (((ps.map mk).getD 0 ByteArray.empty).size ≤ 16) else if k = 3 then decide ((ps.map mk).length ≤ 64) && (ps.map mk).all (fitsF ns g ((kids ns n).getD 0 0)) else if k = 4 then decide ((ps.map mk).length = (kids ns n).length) && ((kids ns n).zip (ps.map mk)).all (fun q => fitsF ns g q.1 q.2) else true) = true := h
    by_cases hk : k < 0
    · rw [if_pos hk] at h
      refine .inl ⟨?_, h⟩
      rcases h3 with ⟨_, _, e⟩ | ⟨x, _, e, _⟩ | ⟨b, e, _⟩ | ⟨s, e, _⟩ | ⟨e, _⟩ | ⟨e, _⟩
      · exact e
      all_goals omega
    · rw [if_neg hk] at h
      by_cases hk2 : k ≠ (nd ns n).kind
      · rw [if_pos hk2] at h
        cases h
      · rw [if_neg hk2] at h
        have e : k = (nd ns n).kind := Decidable.not_not.1 hk2
        subst e
        refine .inr ⟨ps, h1, h3, fun e => ?_, fun e => ?_, fun e => ?_⟩
        · rw [if_pos e, decide_eq_true_eq] at h
          cases ps with
          | nil => exact Nat.zero_le _
          | cons q ps =>
            rw [List.map_cons, List.getD_cons_zero, ← bl_length] at h
            unfold mk at h
            rw [bl_mk] at h
            rw [List.getD_cons_zero]
            exact h
        · rw [if_neg (by omega), if_pos e, Bool.and_eq_true, decide_eq_true_eq, List.all_eq_true, List.length_map] at h
          exact ⟨h.1, fun p hp => h.2 (mk p) (List.mem_map_of_mem hp)⟩
        · rw [if_neg (by omega), if_neg (by omega), if_pos e, Bool.and_eq_true, decide_eq_true_eq, List.all_eq_true, List.length_map] at h
          refine ⟨h.1, fun i hi => ?_⟩
          have hm : ((kAt ns n i), mk (ps.getD i [])) ∈ (kids ns n).zip (ps.map mk) := by
            refine List.mem_of_getElem? (i := i) ?_
            rw [List.getElem?_zip_eq_some]
            unfold kAt
            have h2 : i < ps.length := by omega
            rw [List.getElem?_map, List.getElem?_eq_getElem hi, List.getElem?_eq_getElem h2, List.getD_eq_getElem?_getD, List.getElem?_eq_getElem hi, List.getD_eq_getElem?_getD, List.getElem?_eq_getElem h2]
            exact ⟨rfl, rfl⟩
          exact h.2 _ hm
theorem tell_null : tellV nullM = (-1, []) := by
  unfold tellV
  rw [parts_null]
  rfl
theorem Fit.tellV {ns : List Nd} {g n : Nat} {v : List UInt8} {ps : List (List UInt8)} (h : Fit ns g n v ps) : tellV v = ((nd ns n).kind, ps) := by
  unfold Arr.tellV
  rw [h.tell]
  rfl
theorem Fit.ne_null {ns : List Nd} (hm : May ns) {g n : Nat} (hn : n < ns.length) {v : List UInt8} {ps : List (List UInt8)} (h : Fit ns g n v ps) : v ≠ nullM := by
  intro e
  have := h.tellV
  rw [e, tell_null] at this
  have hk := hm.kind n hn
  injection this with e1 _
  omega
/-- A node's zero fits it. -/
theorem zero_ok {ns : List Nd} (hm : May ns) : ∀ (f n : Nat), n < ns.length → ns.length - n ≤ f → val (4 - depth ns n) (zeroF ns f n) = some (zeroF ns f n).length ∧ (zeroF ns f n).length ≤ hang 3 ns n ∧ ∀ g, ns.length - n ≤ g → fitsF ns g n (mk (zeroF ns f n)) = true := by
  intro f
  induction f with
  | zero => intro n hn hf; omega
  | succ f ih =>
    intro n hn hf
    have hhang := hang_kids hm 3 hn
    rw [zeroF]
    by_cases hnull : (nd ns n).null = true
    · rw [if_pos hnull]
      refine ⟨val_null _, ?_, fun g hg => ?_⟩
      · have : nullM.length = 1 := rfl
        omega
      · obtain ⟨g, rfl⟩ : ∃ y, g = y + 1 := ⟨g - 1, by omega⟩
        exact fits_null hnull
    · rw [if_neg hnull]
      rcases kinds hm hn with e | e | e | e | e
      · have h0 : in64 0 := by unfold in64; omega
        rw [if_pos e]
        refine ⟨val_int _ 0 h0, ?_, fun g hg => ?_⟩
        · have : (intM 0).length = 3 := by decide
          omega
        · obtain ⟨g, rfl⟩ : ∃ y, g = y + 1 := ⟨g - 1, by omega⟩
          exact fits_leaf (.inl e) (by rw [e]; exact parts_int 0 h0) (fun c => by omega)
      · rw [if_neg (by omega), if_pos e]
        refine ⟨val_bool _ _, ?_, fun g hg => ?_⟩
        · have : (boolM false).length = 1 := by decide
          omega
        · obtain ⟨g, rfl⟩ : ∃ y, g = y + 1 := ⟨g - 1, by omega⟩
          exact fits_leaf (.inr (.inl e)) (by rw [e]; exact parts_bool false) (fun c => by omega)
      · rw [if_neg (by omega), if_neg (by omega), if_pos e]
        have hl : (bytesM []).length = 3 := by decide
        refine ⟨val_bytes _ [] (by simp), by omega, fun g hg => ?_⟩
        obtain ⟨g, rfl⟩ : ∃ y, g = y + 1 := ⟨g - 1, by omega⟩
        exact fits_leaf (.inr (.inr e)) (by rw [e]; exact parts_bytes [] (by omega)) (fun _ => ⟨by rw [List.getD_cons_zero]; exact Nat.zero_le _, List.cons_ne_nil _ _⟩)
      · rw [if_neg (by omega), if_neg (by omega), if_neg (by omega), if_pos e]
        have hl : (listM []).length = 2 := by decide
        have h1k : 0 < (kids ns n).length := by have := hm.list n hn e; omega
        have hd := hm.depth_le (kid_of hm h1k).2.1
        have hd2 := (kid_of hm h1k).2.2
        refine ⟨?_, by omega, fun g hg => ?_⟩
        · rw [show 4 - depth ns n = (4 - (depth ns n + 1)) + 1 from by omega]
          exact val_list _ [] (fun v hv => by cases hv)
        · obtain ⟨g, rfl⟩ : ∃ y, g = y + 1 := ⟨g - 1, by omega⟩
          exact fits_list e (parts_list [] (fun v hv => by cases hv) (by omega)) (Nat.zero_le _) (fun v hv => by cases hv)
      · rw [if_neg (by omega), if_neg (by omega), if_neg (by omega), if_neg (by omega)]
        have h1k : 0 < (kids ns n).length := by have := hm.struct n hn e; omega
        have hd := hm.depth_le (kid_of hm h1k).2.1
        have hd2 := (kid_of hm h1k).2.2
        have hkid := fun i (hi : i < (kids ns n).length) => ih (kAt ns n i) (kid_of hm hi).2.1 (by have := (kid_of hm hi).1; omega)
        have hlen : (structM ((List.range (kids ns n).length).map fun i => zeroF ns f (kAt ns n i))).length ≤ hang 3 ns n := by
          rw [length_structM, length_flat, hhang, sum_kAt]
          have := sumTo_le (g := fun i => (zeroF ns f (kAt ns n i)).length) (h := fun i => hang 3 ns (kAt ns n i)) (kids ns n).length (fun i hi => (hkid i hi).2.1)
          omega
        have hle := hang_le hm 3 hn
        refine ⟨?_, hlen, fun g hg => ?_⟩
        · rw [show 4 - depth ns n = (4 - (depth ns n + 1)) + 1 from by omega]
          refine val_struct _ _ fun v hv => ?_
          obtain ⟨i, hi, rfl⟩ := List.mem_map.1 hv
          rw [List.mem_range] at hi
          have := (hkid i hi).1
          rw [(kid_of hm hi).2.2] at this
          exact this
        · obtain ⟨g, rfl⟩ : ∃ y, g = y + 1 := ⟨g - 1, by omega⟩
          refine fits_struct e (parts_struct _ (fun v hv => ?_) (by omega)) (fun i hi => (hkid i hi).2.2 g (by have := (kid_of hm hi).1; omega))
          obtain ⟨i, hi, rfl⟩ := List.mem_map.1 hv
          rw [List.mem_range] at hi
          have := (hkid i hi).1
          rw [(kid_of hm hi).2.2] at this
          exact val_up _ 3 (by omega) _ _ this
end Go.Proofs.YtcpfhfdgfcilaaaGreatDoor.Arr
namespace Go.Proofs.YtcpfhfdgfcilaaaGreatDoor.Arr
open Tree Val Sums

theorem bl_mk' (l : List UInt8) : bl (mk l) = l := bl_mk l
theorem size_mk (l : List UInt8) : (mk l).size = l.length := by rw [← bl_length, bl_mk']
theorem getD_mem' {vs : List (List UInt8)} {i : Nat} (h : i < vs.length) : vs.getD i [] ∈ vs := by
  rw [List.getD_eq_getElem?_getD, List.getElem?_eq_getElem h]
  exact List.getElem_mem h
theorem list_of_getD (l : List (List UInt8)) : (List.range l.length).map (fun j => l.getD j []) = l := by
  refine List.ext_getElem (by simp) fun i h1 h2 => ?_
  rw [List.getElem_map, List.getElem_range, List.getD_eq_getElem?_getD, List.getElem?_eq_getElem h2]
  rfl
/-- What is built, written out. -/
def built (ns : List Nd) (f n : Nat) (vs : List (List UInt8)) : Arr :=
  ⟨0, 0, vs.length, mk (validOf vs), mk (endsOf ns n vs), mk (dataOf ns n vs), (List.range (kids ns n).length).map fun j => (buildF ns f (kAt ns n j) (kidRows ns n vs j)).getD nil⟩
theorem build_some {ns : List Nd} {f n : Nat} {vs : List (List UInt8)} {a : Arr} (h : buildF ns (f + 1) n vs = some a) : a = built ns f n vs ∧ vs.length ≤ 64 ∧ (∀ j, j < (kids ns n).length → ∃ b, buildF ns f (kAt ns n j) (kidRows ns n vs j) = some b ∧ kidAt a j = b) ∧ (dataOf ns n vs).length ≤ 4096 ∧ (endsOf ns n vs).length ≤ 4096 := by
  rw [buildF] at h
  split at h
  · rename_i c
    injection h with h
    refine ⟨h.symm, c.1, fun j hj => ?_, c.2.2⟩
    have := List.all_eq_true.1 c.2.1 j (List.mem_range.2 hj)
    obtain ⟨b, hb⟩ := Option.isSome_iff_exists.1 this
    refine ⟨b, hb, ?_⟩
    rw [← h]
    unfold kidAt
    show ((List.range (kids ns n).length).map fun j => (buildF ns f (kAt ns n j) (kidRows ns n vs j)).getD nil).getD j nil = b
    rw [List.getD_eq_getElem?_getD, List.getElem?_map, List.getElem?_range hj, Option.map_some, hb]
    rfl
  · cases h
theorem built_there (ns : List Nd) (f n : Nat) (vs : List (List UInt8)) {i : Nat} (hi : i < vs.length) : there (built ns f n vs) i = decide (vs.getD i [] ≠ nullM) := by
  unfold there built
  simp only
  rw [size_mk, bl_mk']
  unfold validOf
  split
  · rename_i c
    have := List.all_eq_true.1 c _ (getD_mem' hi)
    rw [this]
    rfl
  · rw [length_bitsOf, List.length_map, decide_eq_false (by omega), Bool.false_or, bit_bitsOf _ _ (by rw [List.length_map]; exact hi)]
    rw [List.getD_eq_getElem?_getD, List.getElem?_map, List.getD_eq_getElem?_getD, List.getElem?_eq_getElem hi]
    rfl
theorem built_head {ns : List Nd} {f n g : Nat} {vs : List (List UInt8)} (h64 : vs.length ≤ 64) (hd : (dataOf ns n vs).length ≤ 4096) (he : (endsOf ns n vs).length ≤ 4096) (hfit : ∀ v ∈ vs, (v = nullM ∧ (nd ns n).null = true) ∨ ∃ ps, Fit ns g n v ps) (hnn : ∀ v ps, Fit ns g n v ps → v ≠ nullM) : headB ns n (built ns f n vs) = true := by
  have hrow : rowsOf (built ns f n vs) = vs.length := by
    unfold rowsOf built
    simp only
    omega
  unfold headB
  rw [hrow]
  unfold built
  simp only [Bool.and_eq_true, Bool.or_eq_true, decide_eq_true_eq, size_mk]
  refine ⟨⟨⟨⟨⟨⟨by omega, by omega⟩, by omega⟩, ?_⟩, he⟩, hd⟩, ?_⟩
  · unfold validOf
    split
    · exact Nat.zero_le _
    · rw [length_bitsOf, List.length_map]
      omega
  · unfold validOf
    split
    · exact .inl rfl
    · rename_i c
      right
      rw [length_bitsOf, List.length_map]
      refine ⟨?_, Nat.le_refl _⟩
      rw [List.all_eq_true] at c
      have : ∃ v, v ∈ vs ∧ v = nullM := by
        apply Classical.byContradiction
        intro q
        apply c
        intro v hv
        rw [decide_eq_true_eq]
        exact fun e => q ⟨v, hv, e⟩
      obtain ⟨v, hv, e⟩ := this
      rcases hfit v hv with c' | ⟨ps, c'⟩
      · exact c'.2
      · exact absurd e (hnn v ps c')
/-- Ends of what is built. -/
theorem length_endsOf {ns : List Nd} {n : Nat} {vs : List (List UInt8)} (hk : (nd ns n).kind = 2 ∨ (nd ns n).kind = 3) : (endsOf ns n vs).length = 4 * (vs.length + 1) := by
  unfold endsOf
  rw [if_pos hk, length_all (fun i => Plain.low (sumTo (fun j => sizeV ns n (vs.getD j [])) i) 4) 0, sumTo_congr (h := fun _ => 4) _ (fun j _ => Plain.length_low _ _), sumTo_const, List.length_range]
theorem endsOf_at {ns : List Nd} {n : Nat} {vs : List (List UInt8)} (hk : (nd ns n).kind = 2 ∨ (nd ns n).kind = 3) {i : Nat} (hi : i ≤ vs.length) (hS : sumTo (fun j => sizeV ns n (vs.getD j [])) i ≤ 4096) : endAt (mk (endsOf ns n vs)) i = sumTo (fun j => sizeV ns n (vs.getD j [])) i := by
  unfold endAt endsOf
  rw [bl_mk', if_pos hk]
  have e : (List.range (vs.length + 1)).getD i 0 = i := by
    rw [List.getD_eq_getElem?_getD, List.getElem?_range (by omega)]
    rfl
  have hc := val_chunk (fun i => sumTo (fun j => sizeV ns n (vs.getD j [])) i) 4 0 (List.range (vs.length + 1)) i (by rw [List.length_range]; omega)
  rw [e] at hc
  refine hc ?_
  have : (256 : Nat) ^ 4 = 4294967296 := by decide
  omega
theorem built_ends {ns : List Nd} {n : Nat} {vs : List (List UInt8)} (hk : (nd ns n).kind = 2 ∨ (nd ns n).kind = 3) {last apart : Int} (hlast : (sumTo (fun j => sizeV ns n (vs.getD j [])) vs.length : Int) ≤ last) (hsmall : sumTo (fun j => sizeV ns n (vs.getD j [])) vs.length ≤ 4096) (hap : ∀ i, i < vs.length → (sizeV ns n (vs.getD i []) : Int) ≤ apart) :
    endsB (mk (endsOf ns n vs)) vs.length 0 last apart = true := by
  unfold endsB
  rw [List.all_eq_true]
  intro i hi
  rw [List.mem_range] at hi
  have hS : ∀ j, j ≤ vs.length → sumTo (fun j => sizeV ns n (vs.getD j [])) j ≤ sumTo (fun j => sizeV ns n (vs.getD j [])) vs.length := fun j hj => sumTo_mono _ hj
  have h1 := endsOf_at hk (show i ≤ vs.length from by omega) (by have := hS i (by omega); omega)
  rw [endsP_iff, h1, size_mk, length_endsOf hk]
  have h0 := hS i (by omega)
  refine ⟨⟨by omega, by omega⟩, ?_, by omega, ?_⟩
  · unfold prev
    by_cases e : i = 0
    · rw [if_pos e]; omega
    · rw [if_neg e, endsOf_at hk (show i - 1 ≤ vs.length from by omega) (by have := hS (i - 1) (by omega); omega)]
      exact sumTo_mono _ (by omega)
  · by_cases e : i = 0
    · left; omega
    · right
      unfold prev
      rw [if_neg e, endsOf_at hk (show i - 1 ≤ vs.length from by omega) (by have := hS (i - 1) (by omega); omega)]
      obtain ⟨j, rfl⟩ : ∃ j, i = j + 1 := ⟨i - 1, by omega⟩
      rw [Nat.add_sub_cancel, sumTo]
      have := hap j (by omega)
      omega
end Go.Proofs.YtcpfhfdgfcilaaaGreatDoor.Arr
namespace Go.Proofs.YtcpfhfdgfcilaaaGreatDoor.Arr
open Tree Val Sums

theorem signed_wrap (x : Int) (h : in64 x) : signed (wrapN x) = x := by
  unfold signed wrapN in64 at *
  split <;> omega
theorem wrapN_lt (x : Int) : wrapN x < 18446744073709551616 := by
  unfold wrapN
  omega
theorem pow8 : (256 : Nat) ^ 8 = 18446744073709551616 := by decide
/-- Rows of what is built, where it is laid down plainly. -/
theorem built_row (ns : List Nd) (f n : Nat) (vs : List (List UInt8)) {i : Nat} (hi : i < vs.length) (hv : vs.getD i [] ≠ nullM → plainRow (rowF ns f) ns n (built ns f n vs) i = vs.getD i []) : rowF ns (f + 1) n (built ns f n vs) i = vs.getD i [] := by
  rw [rowF]
  have e : i + (built ns f n vs).offset.toNat = i := rfl
  rw [e, built_there ns f n vs hi]
  by_cases c : vs.getD i [] = nullM
  · rw [if_pos (decide_eq_false (fun q => q c)), c]
  · rw [if_neg (by rw [decide_eq_true c]; decide), if_pos (show (built ns f n vs).layout = 0 from rfl)]
    exact hv c
theorem rows_built (ns : List Nd) (f n : Nat) (vs : List (List UInt8)) : rowsOf (built ns f n vs) = vs.length := by
  unfold rowsOf built
  simp only
  omega
theorem made_int {v : List UInt8} {ps : List (List UInt8)} (h : Made 0 ps v) : ∃ x, in64 x ∧ ps = [intD x] ∧ v = intM x := by
  rcases h with ⟨e, _⟩ | ⟨x, h1, _, h2, h3⟩ | ⟨b, e, _⟩ | ⟨s, e, _⟩ | ⟨e, _⟩ | ⟨e, _⟩
  · exact absurd e (by decide)
  · exact ⟨x, h1, h2, h3⟩
  all_goals exact absurd e (by decide)
theorem made_bool {v : List UInt8} {ps : List (List UInt8)} (h : Made 1 ps v) : ∃ b, v = boolM b := by
  rcases h with ⟨e, _⟩ | ⟨x, _, e, _⟩ | ⟨b, _, _, h3⟩ | ⟨s, e, _⟩ | ⟨e, _⟩ | ⟨e, _⟩
  · exact absurd e (by decide)
  · exact absurd e (by decide)
  · exact ⟨b, h3⟩
  all_goals exact absurd e (by decide)
theorem made_bytes {v : List UInt8} {ps : List (List UInt8)} (h : Made 2 ps v) : ∃ s, ps = [s] ∧ v = bytesM s := by
  rcases h with ⟨e, _⟩ | ⟨x, _, e, _⟩ | ⟨b, e, _⟩ | ⟨s, _, h2, h3⟩ | ⟨e, _⟩ | ⟨e, _⟩
  · exact absurd e (by decide)
  · exact absurd e (by decide)
  · exact absurd e (by decide)
  · exact ⟨s, h2, h3⟩
  all_goals exact absurd e (by decide)
theorem made_list {v : List UInt8} {ps : List (List UInt8)} (h : Made 3 ps v) : v = listM ps := by
  rcases h with ⟨e, _⟩ | ⟨x, _, e, _⟩ | ⟨b, e, _⟩ | ⟨s, e, _⟩ | ⟨_, h2, _⟩ | ⟨e, _⟩
  · exact absurd e (by decide)
  · exact absurd e (by decide)
  · exact absurd e (by decide)
  · exact absurd e (by decide)
  · exact h2
  · exact absurd e (by decide)
theorem made_struct {v : List UInt8} {ps : List (List UInt8)} (h : Made 4 ps v) : v = structM ps := by
  rcases h with ⟨e, _⟩ | ⟨x, _, e, _⟩ | ⟨b, e, _⟩ | ⟨s, e, _⟩ | ⟨e, _⟩ | ⟨_, h2, _⟩
  · exact absurd e (by decide)
  · exact absurd e (by decide)
  · exact absurd e (by decide)
  · exact absurd e (by decide)
  · exact absurd e (by decide)
  · exact h2
theorem no_kids {ns : List Nd} (hm : May ns) {f n : Nat} {vs : List (List UInt8)} (hn : n < ns.length) (hk : (nd ns n).kind = 0 ∨ (nd ns n).kind = 1 ∨ (nd ns n).kind = 2) : (built ns f n vs).kids = [] := by
  have hl : Tree.isLeaf (nd ns n).kind = true := by
    unfold Tree.isLeaf
    rw [decide_eq_true_eq]
    omega
  have := hm.leaf n hn hl
  unfold built
  simp only
  rw [this]
  rfl
set_option maxHeartbeats 800000 in
theorem build_ok {ns : List Nd} (hm : May ns) : ∀ (f n g : Nat) (vs : List (List UInt8)) (a : Arr), n < ns.length → ns.length - n ≤ g → (∀ v ∈ vs, fitsF ns g n (mk v) = true) → buildF ns f n vs = some a →
    mayF ns f n a = true ∧ a.length = (vs.length : Int) ∧ ∀ i, i < vs.length → rowF ns f n a i = vs.getD i [] := by
  intro f
  induction f with
  | zero => intro n g vs a _ _ _ h; cases h
  | succ f ih =>
    intro n g vs a hn hg hfits h
    obtain ⟨g, rfl⟩ : ∃ y, g = y + 1 := ⟨g - 1, by omega⟩
    obtain ⟨rfl, h64, hkid, hd, he⟩ := build_some h
    clear h
    have hfit : ∀ v ∈ vs, (v = nullM ∧ (nd ns n).null = true) ∨ ∃ ps, Fit ns g n v ps := fun v hv => fits_inv (hfits v hv)
    have hnn : ∀ v ps, Fit ns g n v ps → v ≠ nullM := fun v ps q => q.ne_null hm hn
    have hhead := built_head (f := f) h64 hd he hfit hnn
    have hrows := rows_built ns f n vs
    have hget : ∀ i, i < vs.length → vs.getD i [] ≠ nullM → ∃ ps, Fit ns g n (vs.getD i []) ps := by
      intro i hi c
      rcases hfit _ (getD_mem' hi) with q | q
      · exact absurd q.1 c
      · exact q
    suffices hs : plainB (mayF ns f) ns n (built ns f n vs) = true ∧ ∀ i, i < vs.length → vs.getD i [] ≠ nullM → plainRow (rowF ns f) ns n (built ns f n vs) i = vs.getD i [] by
      refine ⟨?_, rfl, fun i hi => built_row ns f n vs hi (hs.2 i hi)⟩
      rw [mayF, hhead, Bool.true_and, if_pos (show (built ns f n vs).layout = 0 from rfl)]
      exact hs.1
    have hends0 : (nd ns n).kind ≠ 2 → (nd ns n).kind ≠ 3 → (built ns f n vs).ends.size = 0 := by
      intro c1 c2
      unfold built
      simp only
      rw [size_mk, endsOf, if_neg (by omega)]
      rfl
    rcases kinds hm hn with e | e | e | e | e
    · have hk0 := no_kids hm (f := f) (vs := vs) hn (.inl e)
      have hda : dataOf ns n vs = (vs.map fun v => Plain.low (wrapN (intV v)) 8).flatten := by rw [dataOf, if_pos e]
      constructor
      · unfold plainB bare
        rw [if_pos e, hk0, decide_eq_true (hends0 (by omega) (by omega)), hrows]
        simp only [List.isEmpty_nil, Bool.and_self, Bool.true_and, decide_eq_true_eq]
        unfold built
        simp only
        rw [size_mk, hda, length_all (fun v => Plain.low (wrapN (intV v)) 8) [], sumTo_congr (h := fun _ => 8) _ (fun j _ => Plain.length_low _ _), sumTo_const]
        exact Nat.le_refl _
      · intro i hi c
        obtain ⟨ps, hF⟩ := hget i hi c
        have hmade := hF.made
        rw [e] at hmade
        obtain ⟨x, hx, hps, hv⟩ := made_int hmade
        unfold plainRow
        rw [if_pos e]
        have hb : bl (built ns f n vs).data = (vs.map fun v => Plain.low (wrapN (intV v)) 8).flatten := by
          unfold built
          simp only
          rw [bl_mk', hda]
        have hi2 : intV (vs.getD i []) = x := by
          unfold intV
          rw [hF.tellV, hps]
          simp only
          rw [if_neg (by omega), List.getD_cons_zero, numOf_intD x hx]
          rfl
        rw [hb, val_chunk (fun v => wrapN (intV v)) 8 [] vs i hi (by rw [pow8]; exact wrapN_lt _), hi2, signed_wrap x hx]
        exact hv.symm
    · have hk0 := no_kids hm (f := f) (vs := vs) hn (.inr (.inl e))
      have hda : dataOf ns n vs = bitsOf (vs.map fun v => decide (v = [116])) := by rw [dataOf, if_neg (by omega), if_pos e]
      constructor
      · unfold plainB bare
        rw [if_neg (by omega), if_pos e, hk0, decide_eq_true (hends0 (by omega) (by omega)), hrows]
        simp only [List.isEmpty_nil, Bool.and_self, Bool.true_and, decide_eq_true_eq]
        unfold built
        simp only
        rw [size_mk, hda, length_bitsOf, List.length_map]
        exact Nat.le_refl _
      · intro i hi c
        obtain ⟨ps, hF⟩ := hget i hi c
        have hmade := hF.made
        rw [e] at hmade
        obtain ⟨b, hv⟩ := made_bool hmade
        unfold plainRow
        rw [if_neg (by omega), if_pos e]
        have hb : bl (built ns f n vs).data = bitsOf (vs.map fun v => decide (v = [116])) := by
          unfold built
          simp only
          rw [bl_mk', hda]
        rw [hb, bit_bitsOf _ _ (by rw [List.length_map]; exact hi)]
        have hq : (vs.map fun v => decide (v = [116])).getD i false = decide (vs.getD i [] = [116]) := by
          rw [List.getD_eq_getElem?_getD, List.getElem?_map, List.getD_eq_getElem?_getD, List.getElem?_eq_getElem hi]
          rfl
        rw [hq, hv]
        cases b <;> rfl
    · have hk0 := no_kids hm (f := f) (vs := vs) hn (.inr (.inr e))
      have hda : dataOf ns n vs = (vs.map fun v => (tellV v).2.flatten).flatten := by rw [dataOf, if_neg (by omega), if_neg (by omega), if_pos e]
      have hsz : (fun j => sizeV ns n (vs.getD j [])) = fun j => ((tellV (vs.getD j [])).2.flatten).length := by
        funext j
        rw [sizeV, if_pos e]
      have htot : (dataOf ns n vs).length = sumTo (fun j => sizeV ns n (vs.getD j [])) vs.length := by
        rw [hda, length_all (fun v => (tellV v).2.flatten) [], hsz]
      have hone : ∀ i, i < vs.length → (sizeV ns n (vs.getD i []) : Int) ≤ 16 := by
        intro i hi
        rw [sizeV, if_pos e]
        by_cases c : vs.getD i [] = nullM
        · rw [c, tell_null]
          decide
        · obtain ⟨ps, hF⟩ := hget i hi c
          have hmade := hF.made
          rw [e] at hmade
          obtain ⟨s, hps, _⟩ := made_bytes hmade
          have := hF.bytes e
          rw [hps, List.getD_cons_zero] at this
          rw [hF.tellV, hps]
          simp only [List.flatten_cons, List.flatten_nil, List.append_nil]
          omega
      constructor
      · unfold plainB
        rw [if_neg (by omega), if_neg (by omega), if_pos e, hk0, hrows]
        rw [List.isEmpty_nil, Bool.true_and]
        have hds : ((built ns f n vs).data.size : Int) = ((dataOf ns n vs).length : Int) := by
          unfold built
          simp only
          rw [size_mk]
        rw [hds]
        exact built_ends (.inl e) (by rw [htot]; exact Int.le_refl _) (by omega) hone
      · intro i hi c
        obtain ⟨ps, hF⟩ := hget i hi c
        have hmade := hF.made
        rw [e] at hmade
        obtain ⟨s, hps, hv⟩ := made_bytes hmade
        unfold plainRow
        rw [if_neg (by omega), if_neg (by omega), if_pos e]
        have hmono := fun j (hj : j ≤ vs.length) => sumTo_mono (fun j => sizeV ns n (vs.getD j [])) hj
        have e1 := endsOf_at (.inl e) (show i ≤ vs.length from by omega) (by have := hmono i (by omega); omega)
        have e2 := endsOf_at (.inl e) (show i + 1 ≤ vs.length from by omega) (by have := hmono (i + 1) (by omega); omega)
        show bytesM (part (mk (dataOf ns n vs)) (endAt (mk (endsOf ns n vs)) i) (endAt (mk (endsOf ns n vs)) (i + 1))) = _
        rw [e1, e2]
        unfold part
        rw [bl_mk', hda, hsz, cut_at (fun v => (tellV v).2.flatten) [] vs i hi, hF.tellV, hps]
        simp only [List.flatten_cons, List.flatten_nil, List.append_nil]
        exact hv.symm
    · have h1k : (kids ns n).length = 1 := hm.list n hn e
      obtain ⟨b, hb, hkb⟩ := hkid 0 (by omega)
      have kk := kid_of hm (show 0 < (kids ns n).length from by omega)
      have hR : kidRows ns n vs 0 = (vs.map fun v => (tellV v).2).flatten := by rw [kidRows, if_pos e]
      have hRl : (kidRows ns n vs 0).length = sumTo (fun j => sizeV ns n (vs.getD j [])) vs.length := by
        rw [hR, length_all (fun v => (tellV v).2) []]
        refine sumTo_congr _ fun j _ => ?_
        rw [sizeV, if_neg (by omega)]
      have hRf : ∀ p ∈ kidRows ns n vs 0, fitsF ns g (kAt ns n 0) (mk p) = true := by
        intro p hp
        rw [hR, List.mem_flatten] at hp
        obtain ⟨l, hl, hp⟩ := hp
        obtain ⟨v, hv, rfl⟩ := List.mem_map.1 hl
        rcases hfit v hv with q | ⟨ps, q⟩
        · rw [q.1, tell_null] at hp
          cases hp
        · rw [q.tellV] at hp
          exact (q.list e).2 p hp
      obtain ⟨i1, i2, i3⟩ := ih _ g _ b kk.2.1 (by omega) hRf hb
      have hR64 : (kidRows ns n vs 0).length ≤ 64 := by
        cases f with
        | zero => cases hb
        | succ f => exact (build_some hb).2.1
      have hda : dataOf ns n vs = [] := by rw [dataOf, if_neg (by omega), if_neg (by omega), if_neg (by omega)]
      constructor
      · unfold plainB
        rw [if_neg (by omega), if_neg (by omega), if_neg (by omega), if_pos e, hrows, hkb, i1, i2]
        have hds : (built ns f n vs).data.size = 0 := by
          unfold built
          simp only
          rw [size_mk, hda]
          rfl
        have hkl : (built ns f n vs).kids.length = 1 := by
          unfold built
          simp only
          rw [List.length_map, List.length_range, h1k]
        rw [decide_eq_true hds, decide_eq_true hkl, Bool.true_and, Bool.true_and]
        refine built_ends (.inr e) (by rw [hRl]; exact Int.le_refl _) (by omega) (fun i hi => ?_)
        have := sumTo_term (fun j => sizeV ns n (vs.getD j [])) hi
        omega
      · intro i hi c
        obtain ⟨ps, hF⟩ := hget i hi c
        have hmade := hF.made
        rw [e] at hmade
        have hv := made_list hmade
        unfold plainRow
        rw [if_neg (by omega), if_neg (by omega), if_neg (by omega), if_pos e, hkb]
        have hmono := fun j (hj : j ≤ vs.length) => sumTo_mono (fun j => sizeV ns n (vs.getD j [])) hj
        have e1 := endsOf_at (.inr e) (show i ≤ vs.length from by omega) (by have := hmono i (by omega); omega)
        have e2 := endsOf_at (.inr e) (show i + 1 ≤ vs.length from by omega) (by have := hmono (i + 1) (by omega); omega)
        have hone : sizeV ns n (vs.getD i []) = ps.length := by rw [sizeV, if_neg (by omega), hF.tellV]
        have hm1 := hmono (i + 1) (by omega)
        rw [sumTo] at e2 hm1
        show listM ((List.range (endAt (mk (endsOf ns n vs)) (i + 1) - endAt (mk (endsOf ns n vs)) i)).map fun j => rowF ns f (kAt ns n 0) b (endAt (mk (endsOf ns n vs)) i + j)) = _
        rw [e1, e2, Nat.add_sub_cancel_left, hone]
        have hsz : (fun j => sizeV ns n (vs.getD j [])) = fun j => ((tellV (vs.getD j [])).2).length := by
          funext j
          rw [sizeV, if_neg (by omega)]
        have hall : (List.range ps.length).map (fun j => rowF ns f (kAt ns n 0) b (sumTo (fun j => sizeV ns n (vs.getD j [])) i + j)) = (List.range ps.length).map (fun j => ps.getD j []) := by
          refine List.map_congr_left fun j hj => ?_
          rw [List.mem_range] at hj
          rw [i3 _ (by omega), hR, hsz, at_within (fun v => (tellV v).2) [] [] vs i j hi (by rw [hF.tellV]; exact hj), hF.tellV]
        rw [hall, list_of_getD]
        exact hv.symm
    · have hda : dataOf ns n vs = [] := by rw [dataOf, if_neg (by omega), if_neg (by omega), if_neg (by omega)]
      have hrl : ∀ j, kidRows ns n vs j = vs.map fun v => if (tellV v).1 < 0 then zeroF ns 8 (kAt ns n j) else (tellV v).2.getD j [] := by
        intro j
        rw [kidRows, if_neg (by omega)]
      have h8 := hm.most
      have hkids : ∀ j, j < (kids ns n).length → mayF ns f (kAt ns n j) (kidAt (built ns f n vs) j) = true ∧ (kidAt (built ns f n vs) j).length = (vs.length : Int) ∧ ∀ i, i < vs.length → rowF ns f (kAt ns n j) (kidAt (built ns f n vs) j) i = (kidRows ns n vs j).getD i [] := by
        intro j hj
        obtain ⟨b, hb, hkb⟩ := hkid j hj
        have kk := kid_of hm hj
        rw [hkb]
        have hfj : ∀ p ∈ kidRows ns n vs j, fitsF ns g (kAt ns n j) (mk p) = true := by
          intro p hp
          rw [hrl] at hp
          obtain ⟨v, hv, rfl⟩ := List.mem_map.1 hp
          rcases hfit v hv with q | ⟨ps, q⟩
          · rw [q.1, tell_null, if_pos (by decide)]
            exact (zero_ok hm 8 _ kk.2.1 (by omega)).2.2 g (by omega)
          · rw [q.tellV, if_neg (by omega)]
            exact (q.struct e).2 j hj
        have hl : (kidRows ns n vs j).length = vs.length := by rw [hrl, List.length_map]
        obtain ⟨i1, i2, i3⟩ := ih _ g _ b kk.2.1 (by omega) hfj hb
        rw [hl] at i2 i3
        exact ⟨i1, i2, i3⟩
      constructor
      · unfold plainB
        rw [if_neg (by omega), if_neg (by omega), if_neg (by omega), if_neg (by omega), hrows]
        have hds : (built ns f n vs).data.size = 0 := by
          unfold built
          simp only
          rw [size_mk, hda]
          rfl
        have hkl : (built ns f n vs).kids.length = (kids ns n).length := by
          unfold built
          simp only
          rw [List.length_map, List.length_range]
        rw [decide_eq_true hds, decide_eq_true (hends0 (by omega) (by omega)), decide_eq_true hkl, Bool.true_and, Bool.true_and, Bool.true_and, List.all_eq_true]
        intro j hj
        rw [List.mem_range] at hj
        obtain ⟨i1, i2, _⟩ := hkids j hj
        rw [i1, i2, Bool.true_and, decide_eq_true_eq]
        exact Int.le_refl _
      · intro i hi c
        obtain ⟨ps, hF⟩ := hget i hi c
        have hmade := hF.made
        rw [e] at hmade
        have hv := made_struct hmade
        have hpl := (hF.struct e).1
        unfold plainRow
        rw [if_neg (by omega), if_neg (by omega), if_neg (by omega), if_neg (by omega), ← hpl]
        have hall : (List.range ps.length).map (fun j => rowF ns f (kAt ns n j) (kidAt (built ns f n vs) j) i) = (List.range ps.length).map (fun j => ps.getD j []) := by
          refine List.map_congr_left fun j hj => ?_
          rw [List.mem_range] at hj
          obtain ⟨_, _, i3⟩ := hkids j (by omega)
          rw [i3 i hi, hrl, List.getD_eq_getElem?_getD, List.getElem?_map, List.getElem?_eq_getElem hi]
          have hvi : vs[i] = vs.getD i [] := by
            rw [List.getD_eq_getElem?_getD, List.getElem?_eq_getElem hi]
            rfl
          rw [Option.map_some, Option.getD_some, hvi, hF.tellV, if_neg (by omega)]
        rw [hall, list_of_getD]
        exact hv.symm
end Go.Proofs.YtcpfhfdgfcilaaaGreatDoor.Arr
namespace Go.Proofs.YtcpfhfdgfcilaaaGreatDoor.Arr
open Tree Val Sums

/-- All of them fit. -/
def AllFit (ns : List Nd) (g n : Nat) (vs : List (List UInt8)) : Prop := ∀ v ∈ vs, fitsF ns g n (mk v) = true
theorem kidRows_fit {ns : List Nd} (hm : May ns) {g n : Nat} {vs : List (List UInt8)} (hn : n < ns.length) (hg : ns.length - n ≤ g + 1) (h : AllFit ns (g + 1) n vs) {j : Nat} (hj : j < (kids ns n).length) : AllFit ns g (kAt ns n j) (kidRows ns n vs j) := by
  have hfit : ∀ v ∈ vs, (v = nullM ∧ (nd ns n).null = true) ∨ ∃ ps, Fit ns g n v ps := fun v hv => fits_inv (h v hv)
  have kk := kid_of hm hj
  have h8 := hm.most
  have hk : (nd ns n).kind = 3 ∨ (nd ns n).kind = 4 := by
    rcases kinds hm hn with e | e | e | e | e
    · have := hm.leaf n hn (by unfold Tree.isLeaf; rw [decide_eq_true_eq]; omega)
      rw [this] at hj
      cases hj
    · have := hm.leaf n hn (by unfold Tree.isLeaf; rw [decide_eq_true_eq]; omega)
      rw [this] at hj
      cases hj
    · have := hm.leaf n hn (by unfold Tree.isLeaf; rw [decide_eq_true_eq]; omega)
      rw [this] at hj
      cases hj
    · exact .inl e
    · exact .inr e
  intro p hp
  unfold kidRows at hp
  rcases hk with e | e
  · have h1 := hm.list n hn e
    obtain rfl : j = 0 := by omega
    rw [if_pos e, List.mem_flatten] at hp
    obtain ⟨l, hl, hp⟩ := hp
    obtain ⟨v, hv, rfl⟩ := List.mem_map.1 hl
    rcases hfit v hv with q | ⟨ps, q⟩
    · rw [q.1, tell_null] at hp
      cases hp
    · rw [q.tellV] at hp
      exact (q.list e).2 p hp
  · rw [if_neg (by omega)] at hp
    obtain ⟨v, hv, rfl⟩ := List.mem_map.1 hp
    rcases hfit v hv with q | ⟨ps, q⟩
    · rw [q.1, tell_null, if_pos (by decide)]
      exact (zero_ok hm 8 _ kk.2.1 (by omega)).2.2 g (by omega)
    · rw [q.tellV, if_neg (by omega)]
      exact (q.struct e).2 j hj
end Go.Proofs.YtcpfhfdgfcilaaaGreatDoor.Arr
namespace Go.Proofs.YtcpfhfdgfcilaaaGreatDoor.Arr
open Tree Val Sums

theorem valid_len (vs : List (List UInt8)) : (validOf vs).length = 0 ∨ (validOf vs).length = (vs.length + 7) / 8 ∧ ∃ v ∈ vs, v = nullM := by
  unfold validOf
  split
  · exact .inl rfl
  · rename_i c
    right
    rw [length_bitsOf, List.length_map]
    refine ⟨rfl, ?_⟩
    rw [List.all_eq_true] at c
    apply Classical.byContradiction
    intro q
    apply c
    intro v hv
    rw [decide_eq_true_eq]
    exact fun e => q ⟨v, hv, e⟩
end Go.Proofs.YtcpfhfdgfcilaaaGreatDoor.Arr
namespace Go.Proofs.YtcpfhfdgfcilaaaGreatDoor.Arr
open Go.ChangeShapes Go.WideShapes Go.ChangeAt Go.RowKit
open Tree Val

/-- Is a text not nothing's? -/
def isOn (s : ByteArray) : Bool := decide (bl s ≠ nullM)
end Go.Proofs.YtcpfhfdgfcilaaaGreatDoor.Arr
set_option linter.unusedVariables false
set_option linter.unusedSimpArgs false
namespace Go.Proofs.YtcpfhfdgfcilaaaGreatDoor.Arr
open Go.ChangeShapes Go.WideShapes Go.ChangeAt Go.RowKit
open Tree Val

end Go.Proofs.YtcpfhfdgfcilaaaGreatDoor.Arr
namespace Go.Proofs.YtcpfhfdgfcilaaaGreatDoor.Arr
open Tree Val Sums

theorem endsOf_none {ns : List Nd} {n : Nat} (h2 : (nd ns n).kind ≠ 2) (h3 : (nd ns n).kind ≠ 3) (vs : List (List UInt8)) : endsOf ns n vs = [] := by
  unfold endsOf
  rw [if_neg (by omega)]
theorem dataOf_none {ns : List Nd} {n : Nat} (h0 : (nd ns n).kind ≠ 0) (h1 : (nd ns n).kind ≠ 1) (h2 : (nd ns n).kind ≠ 2) (vs : List (List UInt8)) : dataOf ns n vs = [] := by
  unfold dataOf
  rw [if_neg h0, if_neg h1, if_neg h2]
theorem data2_snoc {ns : List Nd} {n : Nat} (hk : (nd ns n).kind = 2) (vs : List (List UInt8)) (v : List UInt8) : dataOf ns n (vs ++ [v]) = dataOf ns n vs ++ (tellV v).2.flatten := by
  unfold dataOf
  rw [if_neg (by omega), if_neg (by omega), if_pos hk, if_neg (by omega), if_neg (by omega), if_pos hk]
  simp
theorem data1_all {ns : List Nd} {n : Nat} (hk : (nd ns n).kind = 1) (vs : List (List UInt8)) : dataOf ns n vs = bitsOf (vs.map fun v => decide (v = [116])) := by
  unfold dataOf
  rw [if_neg (by omega), if_pos hk]
/-- What a struct's kid has of a value. -/
def kidV (ns : List Nd) (n : Nat) (v : List UInt8) (j : Nat) : List UInt8 := if (tellV v).1 < 0 then zeroF ns 8 (kAt ns n j) else (tellV v).2.getD j []
theorem length_data0 {ns : List Nd} {n : Nat} (hk : (nd ns n).kind = 0) : ∀ vs : List (List UInt8), (dataOf ns n vs).length = 8 * vs.length := by
  intro vs
  unfold dataOf
  rw [if_pos hk, length_all (fun v => Plain.low (wrapN (intV v)) 8) [], sumTo_congr (h := fun _ => 8) _ (fun j _ => Plain.length_low _ _), sumTo_const]
theorem take_snoc (vs : List (List UInt8)) {k : Nat} (h : k < vs.length) : vs.take (k + 1) = vs.take k ++ [vs.getD k []] := by
  rw [List.take_add_one, List.getElem?_eq_getElem h, Option.toList_some, List.getD_eq_getElem?_getD, List.getElem?_eq_getElem h, Option.getD_some]
/-- A value that fits is told apart. -/
theorem tell_fit {ns : List Nd} {g n : Nat} {v : List UInt8} (h : fitsF ns (g + 1) n (mk v) = true) : partsS (mk v) = some ((tellV v).1, (tellV v).2.map mk) := by
  rcases fits_inv h with ⟨rfl, _⟩ | ⟨ps, hF⟩
  · rw [tell_null, partsS, mk, bl_mk, parts_null]
    rfl
  · rw [hF.tellV, partsS, mk, bl_mk, hF.tell]
    rfl
/-- The four ways of what fits. -/
structure FitV (ns : List Nd) (n : Nat) (v : List UInt8) : Prop where
  kind : (tellV v).1 = -1 ∧ (tellV v).2 = [] ∧ v = nullM ∨ (tellV v).1 = (nd ns n).kind ∧ v ≠ nullM
  int : (nd ns n).kind = 0 → (tellV v).1 = 0 → ∃ x, in64 x ∧ (tellV v).2 = [intD x] ∧ intV v = x
  bool : (nd ns n).kind = 1 → v = nullM ∨ ∃ b, v = boolM b
  bytes : (nd ns n).kind = 2 → (tellV v).2.flatten.length ≤ 16 ∧ (tellV v).2.length ≤ 1
  list : (nd ns n).kind = 3 → (tellV v).2.length ≤ 64
  struct : (nd ns n).kind = 4 → 0 ≤ (tellV v).1 → (tellV v).2.length = (kids ns n).length
theorem fitV {ns : List Nd} (hm : May ns) {g n : Nat} (hn : n < ns.length) {v : List UInt8} (h : fitsF ns (g + 1) n (mk v) = true) : FitV ns n v := by
  rcases fits_inv h with ⟨rfl, _⟩ | ⟨ps, hF⟩
  · have e := tell_null
    refine ⟨.inl ⟨by rw [e], by rw [e], rfl⟩, fun _ c => ?_, fun _ => .inl rfl, fun _ => ?_, fun _ => ?_, fun _ c => ?_⟩
    · rw [e] at c; cases c
    · rw [e]; exact ⟨Nat.zero_le _, Nat.zero_le _⟩
    · rw [e]; exact Nat.zero_le _
    · rw [e] at c; exact absurd c (by decide)
  · have e := hF.tellV
    have hM := hF.made
    refine ⟨.inr ⟨by rw [e], hF.ne_null hm hn⟩, fun hk _ => ?_, fun hk => ?_, fun hk => ?_, fun hk => ?_, fun hk _ => ?_⟩
    · rw [hk] at hM
      obtain ⟨x, hx, hps, hv⟩ := made_int hM
      refine ⟨x, hx, by rw [e, hps], ?_⟩
      unfold intV
      rw [e, hps]
      simp only
      rw [if_neg (by omega), List.getD_cons_zero, numOf_intD x hx]
      rfl
    · rw [hk] at hM
      exact .inr (made_bool hM)
    · rw [hk] at hM
      obtain ⟨s, hps, _⟩ := made_bytes hM
      have := hF.bytes hk
      rw [hps, List.getD_cons_zero] at this
      rw [e, hps]
      simp only [List.flatten_cons, List.flatten_nil, List.append_nil, List.length_cons, List.length_nil]
      omega
    · rw [e]
      exact (hF.list hk).1
    · rw [e]
      exact (hF.struct hk).1
theorem length_data2 {ns : List Nd} {n : Nat} (hk : (nd ns n).kind = 2) (vs : List (List UInt8)) (h : ∀ v ∈ vs, FitV ns n v) : ∀ k, k ≤ vs.length → (dataOf ns n (vs.take k)).length ≤ 16 * k := by
  intro k
  induction k with
  | zero => intro _; rw [List.take_zero]; unfold dataOf; rw [if_neg (by omega), if_neg (by omega), if_pos hk]; exact Nat.le_refl _
  | succ k ih =>
    intro hle
    rw [take_snoc vs (by omega), data2_snoc hk, List.length_append]
    have := ((h _ (getD_mem' (i := k) (by omega))).bytes hk).1
    have := ih (by omega)
    omega
end Go.Proofs.YtcpfhfdgfcilaaaGreatDoor.Arr
