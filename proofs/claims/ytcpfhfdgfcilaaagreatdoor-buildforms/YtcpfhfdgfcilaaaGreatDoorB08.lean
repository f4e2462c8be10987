/-
  Several texts in one: Arrays by runs: isRun: contract. · Whether an array may be: May: contract. · Whether an array may be: May: contract. · Whether an array may be, behind its head: May: contract.
-/
import Derived.Test.YtcpfhfdgfcilaaaGreatDoorB07
import Derived.Laws.AppendOwnNone
import Derived.OwnWalk
import Derived.Laws.OwnMore
namespace Go.Proofs.YtcpfhfdgfcilaaaGreatDoor.Arr
open Go.ChangeShapes Go.WideShapes Go.ChangeAt Go.RowKit
open Tree Val

theorem mayZ_len {ns : List Nd} {at' : Int} {f : Nat} {k : Arr} (h : mayZ ns at' f k = true) : 0 ≤ k.length ∧ k.length ≤ 64 := by
  unfold mayZ at h
  rw [Bool.and_eq_true] at h
  cases f with
  | zero => cases h.2
  | succ f =>
    have hh := (mayF_cases h.2).1
    have h1 := hh.off
    have h2 := hh.len
    have h3 := hh.rows
    omega
theorem getD_behind (g : Nat → Nat) (L i : Nat) (hi : i < L) : ([0] ++ (List.range L).map g).getD (i + 1) 0 = g i := by
  rw [List.getD_eq_getElem?_getD, List.getElem?_append_right (by simp), List.length_singleton, Nat.add_sub_cancel, List.getElem?_map, List.getElem?_range hi, Option.map_some, Option.getD_some]
end Go.Proofs.YtcpfhfdgfcilaaaGreatDoor.Arr
namespace Go.Proofs.YtcpfhfdgfcilaaaGreatDoor.Arr
open Go.ChangeShapes Go.WideShapes Go.ChangeAt Go.RowKit
open Tree Val

/-- What May asks of an array by runs. -/
def runA' (ns : List Nd) (f n : Nat) (a : Arr) : Bool := decide (a.kids.length = 1) && decide (a.ends.size = 0) && decide ((kidAt a 0).layout = 0) && mayF ns f n (kidAt a 0) && runB a
theorem head_eq (ns : List Nd) (n : Nat) (a : Arr) : headB ns n a = (hasRowsB a && (shortsOf a.valid a.ends a.data && lackB (nd ns n).null a)) := by
  rw [Bool.eq_iff_iff]
  unfold headB hasRowsB shortsOf lackB
  simp only [Bool.and_eq_true, decide_eq_true_eq, Bool.or_eq_true]
  constructor
  · rintro ⟨⟨⟨⟨⟨⟨h1, h2⟩, h3⟩, h4⟩, h5⟩, h6⟩, h7⟩
    exact ⟨⟨h1, h2, h3⟩, ⟨⟨h4, h5⟩, h6⟩, h7⟩
  · rintro ⟨⟨h1, h2, h3⟩, ⟨⟨h4, h5⟩, h6⟩, h7⟩
    exact ⟨⟨⟨⟨⟨⟨h1, h2⟩, h3⟩, h4⟩, h5⟩, h6⟩, h7⟩
theorem ok_of {a : Arr} (h1 : hasRowsB a = true) (h2 : shortsOf a.valid a.ends a.data = true) : Ok a := by
  unfold hasRowsB at h1
  unfold shortsOf at h2
  simp only [Bool.and_eq_true, decide_eq_true_eq] at h1 h2
  exact ⟨h1.1, h1.2.1, h1.2.2, h2.1.1, h2.1.2, h2.2⟩
theorem lack_of {null : Bool} {a : Arr} (h : lackB null a = true) : a.valid.size = 0 ∨ rowsOf a ≤ 8 * a.valid.size := by
  unfold lackB at h
  simp only [Bool.and_eq_true, decide_eq_true_eq, Bool.or_eq_true] at h
  omega
/-- What is asked once the head may be. -/
def layB (ns : List Nd) (f n : Nat) (a : Arr) : Bool := if a.layout = 0 then plainB (mayF ns f) ns n a else if a.layout = 1 then isLeafB (nd ns n).kind && dictA' ns f n a else if a.layout = 2 then isLeafB (nd ns n).kind && runA' ns f n a else false
theorem leaf_eq {ns : List Nd} (hm : may ns = true) {n : Nat} (hn : n < ns.length) : Tree.isLeaf (nd ns n).kind = isLeafB (nd ns n).kind := by
  have := (may_of hm).kind n hn
  generalize (nd ns n).kind = k at *
  rcases (show k = 0 ∨ k = 1 ∨ k = 2 ∨ k = 3 ∨ k = 4 from by omega) with rfl | rfl | rfl | rfl | rfl <;> decide
theorem may_lay {ns : List Nd} (hm : may ns = true) {n : Nat} (hn : n < ns.length) (f : Nat) (a : Arr) : mayF ns (f + 1) n a = (headB ns n a && layB ns f n a) := by
  unfold mayF layB
  rw [leaf_eq hm hn]
  unfold dictA' runA'
  by_cases c0 : a.layout = 0
  · rw [if_pos c0, if_pos c0]
  · rw [if_neg c0, if_neg c0]
    by_cases c1 : a.layout = 1
    · rw [if_pos c1, if_pos c1]
      simp only [Bool.and_assoc]
    · rw [if_neg c1, if_neg c1]
      by_cases c2 : a.layout = 2
      · rw [if_pos c2, if_pos c2]
        simp only [Bool.and_assoc]
      · rw [if_neg c2, if_neg c2]
        simp
end Go.Proofs.YtcpfhfdgfcilaaaGreatDoor.Arr
namespace Go.Proofs.YtcpfhfdgfcilaaaGreatDoor.Arr
open Go.ChangeShapes Go.WideShapes Go.ChangeAt Go.RowKit
open Tree Val

end Go.Proofs.YtcpfhfdgfcilaaaGreatDoor.Arr
namespace Go.Proofs.YtcpfhfdgfcilaaaGreatDoor.Arr
open Go.ChangeShapes Go.WideShapes Go.ChangeAt Go.RowKit
open Tree Val

end Go.Proofs.YtcpfhfdgfcilaaaGreatDoor.Arr
