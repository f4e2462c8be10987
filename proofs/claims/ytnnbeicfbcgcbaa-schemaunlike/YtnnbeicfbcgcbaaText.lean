/-
  A type as a text: how many nodes, then three bytes each; and back.
-/
import Derived.WalkKit
import Derived.Test.YtnnbeicfbcgcbaaTree
namespace Go.Proofs.Ytnnbeicfbcgcbaa.Tree

def nullB (b : Bool) : UInt8 := if b then 1 else 0
def encN (n : Nd) : List UInt8 := [UInt8.ofNat n.kind.toNat, UInt8.ofNat (n.par + 1).toNat, nullB n.null]
def encTo (ns : List Nd) : Nat → List UInt8
  | 0 => [UInt8.ofNat ns.length]
  | k + 1 => encTo ns k ++ encN (nd ns k)
def enc (ns : List Nd) : List UInt8 := encTo ns ns.length
theorem length_encTo (ns : List Nd) (k : Nat) : (encTo ns k).length = 1 + 3 * k := by
  induction k with
  | zero => rfl
  | succ k ih => rw [encTo, List.length_append, ih]; show 1 + 3 * k + 3 = _; omega
theorem encTo_first (ns : List Nd) (k : Nat) : (encTo ns k).getD 0 0 = UInt8.ofNat ns.length := by
  induction k with
  | zero => rfl
  | succ k ih => rw [encTo, List.getD_eq_getElem?_getD, List.getElem?_append_left (by rw [length_encTo]; omega), ← List.getD_eq_getElem?_getD, ih]
theorem encTo_at (ns : List Nd) (k j r : Nat) (hj : j < k) (hr : r < 3) : (encTo ns k).getD (1 + 3 * j + r) 0 = (encN (nd ns j)).getD r 0 := by
  induction k with
  | zero => omega
  | succ k ih =>
    rw [encTo]
    by_cases e : j = k
    · subst e
      rw [List.getD_eq_getElem?_getD, List.getElem?_append_right (by rw [length_encTo]; omega), length_encTo, show 1 + 3 * j + r - (1 + 3 * j) = r from by omega, ← List.getD_eq_getElem?_getD]
    · rw [List.getD_eq_getElem?_getD, List.getElem?_append_left (by rw [length_encTo]; omega), ← List.getD_eq_getElem?_getD]
      exact ih (by omega)
/-- The node that three bytes tell. -/
def decN (l : List UInt8) (j : Nat) : Nd := ⟨((l.getD (1 + 3 * j) 0).toNat : Int), ((l.getD (1 + 3 * j + 1) 0).toNat : Int) - 1, decide (l.getD (1 + 3 * j + 2) 0 = 1)⟩
theorem byteI (x : Int) (h0 : 0 ≤ x) (h1 : x < 256) : ((UInt8.ofNat x.toNat).toNat : Int) = x := by
  simp
  omega
theorem May.dec {ns : List Nd} (h : May ns) {j : Nat} (hj : j < ns.length) : decN (enc ns) j = nd ns j := by
  have hk := h.kind j hj
  have hm := h.most
  have hp : -1 ≤ (nd ns j).par ∧ (nd ns j).par < 8 := by
    by_cases e : j = 0
    · subst e; rw [h.first]; omega
    · have := h.par j (by omega) hj; omega
  have e0 := encTo_at ns ns.length j 0 hj (by decide)
  have e1 := encTo_at ns ns.length j 1 hj (by decide)
  have e2 := encTo_at ns ns.length j 2 hj (by decide)
  unfold decN enc
  rw [Nat.add_zero] at e0
  rw [e0, e1, e2]
  show Nd.mk ((UInt8.ofNat (nd ns j).kind.toNat).toNat : Int) (((UInt8.ofNat ((nd ns j).par + 1).toNat).toNat : Int) - 1) (decide (nullB (nd ns j).null = 1)) = _
  rw [byteI _ hk.1 (by omega), byteI _ (by omega) (by omega)]
  have hn : decide (nullB (nd ns j).null = 1) = (nd ns j).null := by
    cases (nd ns j).null <;> rfl
  rw [hn]
  cases nd ns j
  simp
theorem nd_map (ns : List Nd) : ns = (List.range ns.length).map (nd ns) := by
  apply List.ext_getElem?
  intro i
  by_cases hi : i < ns.length
  · simp [hi, nd, List.getD]
  · simp [hi]
/-- What is told of a type's text is the type. -/
theorem May.back {ns : List Nd} (h : May ns) : (List.range ns.length).map (decN (enc ns)) = ns := by
  have : (List.range ns.length).map (decN (enc ns)) = (List.range ns.length).map (nd ns) := List.map_congr_left fun j hj => h.dec (by simpa using hj)
  rw [this, ← nd_map]
theorem length_enc (ns : List Nd) : (enc ns).length = 1 + 3 * ns.length := length_encTo ns _
end Go.Proofs.Ytnnbeicfbcgcbaa.Tree
