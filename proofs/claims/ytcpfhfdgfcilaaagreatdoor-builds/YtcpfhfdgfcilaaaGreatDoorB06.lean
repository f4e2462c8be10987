/-
  Several texts in one: Ends of an array: hasEnds, areNear, mayLack: contracts. · Ends near each other; which rows may lack: areNear, mayLack: contracts. · Kids of an array: how they lie; the closures that ask each of them: contracts. · Each kid of an array asked, with its node: every.Pair over nodes and arrays, below: contracts. · Whether a plain array may be: isPlain: contract. · Whether a plain array may be: isPlain: contract.
-/
import Derived.Test.YtcpfhfdgfcilaaaGreatDoorB05
import Derived.Test.YtcpfhfdgfcilaaaGreatDoorB02
namespace Go.Proofs.YtcpfhfdgfcilaaaGreatDoor.Arr
open Go.ChangeShapes Go.WideShapes Go.ChangeAt Go.RowKit
open Tree Val

end Go.Proofs.YtcpfhfdgfcilaaaGreatDoor.Arr
namespace Go.Proofs.YtcpfhfdgfcilaaaGreatDoor.Arr
open Go.ChangeShapes Go.WideShapes Go.ChangeAt Go.RowKit
open Tree Val

end Go.Proofs.YtcpfhfdgfcilaaaGreatDoor.Arr
namespace Go.Proofs.YtcpfhfdgfcilaaaGreatDoor.Arr
open Go.ChangeShapes Go.WideShapes Go.ChangeAt Go.RowKit
open Tree Val

/-- An array lies at an address. -/
structure Kid (w : World) (y : Addr) (k : Arr) (o : Option Addr) (cap : Nat) : Prop where
  k0 : w.cell? y = some (.int .i64 k.layout)
  k1 : w.cell? { block := y.block, off := y.off + 1 } = some (.int .i64 k.offset)
  k2 : w.cell? { block := y.block, off := y.off + 2 } = some (.int .i64 k.length)
  k3 : w.cell? { block := y.block, off := y.off + 3 } = some (.string k.valid)
  k4 : w.cell? { block := y.block, off := y.off + 4 } = some (.string k.ends)
  k5 : w.cell? { block := y.block, off := y.off + 5 } = some (.string k.data)
  k6 : w.cell? { block := y.block, off := y.off + 6 } = some (.slice o k.kids.length cap)
theorem Kid.later {w w' : World} {y : Addr} {k : Arr} {o : Option Addr} {cap : Nat} (h : Kid w y k o cap) (hb : Below w.heap.size w w') : Kid w' y k o cap :=
  ⟨cell_later hb h.k0, cell_later hb h.k1, cell_later hb h.k2, cell_later hb h.k3, cell_later hb h.k4, cell_later hb h.k5, cell_later hb h.k6⟩
theorem HoldsF.kid {B bytes : Nat} {w : World} {f : Nat} {a : Arr} {o : Option Addr} {cap : Nat} (h : HoldsF B bytes w (f + 1) (a.cells o cap) a) {i : Nat} (hi : i < a.kids.length) :
    ∃ x o' cap', o = some x ∧ Kid w (x.add (i * 7)) (kidAt a i) o' cap' ∧ HoldsF B bytes w f ((kidAt a i).cells o' cap') (kidAt a i) := by
  obtain ⟨o2, cap2, e, _, _, _, _, h6⟩ := h
  have eo : o = o2 := by
    unfold Arr.cells at e
    simp only [List.cons.injEq, Value.slice.injEq, and_true, true_and] at e
    exact e.1
  subst eo
  rcases h6 with ⟨_, c, _⟩ | ⟨x, rfl, hx⟩
  · rw [c] at hi; cases hi
  · obtain ⟨cs, h7, hc, hh⟩ := hx i hi
    cases f with
    | zero => cases hh
    | succ f =>
      have hk := hh
      obtain ⟨o3, cap3, e3, _⟩ := hk
      have hk : kidAt a i = a.kids.getD i nil := rfl
      rw [← hk] at hh e3
      rw [e3] at hc hh
      have at' : ∀ j v, j < 7 → ((kidAt a i).cells o3 cap3)[j]? = some v → w.cell? { block := (x.add (i * 7)).block, off := (x.add (i * 7)).off + j } = some v := fun j v hj hv => add_at (i * 7) j ((hc j hj).trans hv)
      refine ⟨x, o3, cap3, rfl, ⟨?_, at' 1 _ (by omega) rfl, at' 2 _ (by omega) rfl, at' 3 _ (by omega) rfl, at' 4 _ (by omega) rfl, at' 5 _ (by omega) rfl, at' 6 _ (by omega) rfl⟩, hh⟩
      have := hc 0 (by omega)
      rw [Nat.add_zero] at this
      exact this
theorem HoldsF.ok' {B bytes : Nat} {w : World} {f : Nat} {a : Arr} {o : Option Addr} {cap : Nat} (h : HoldsF B bytes w f (a.cells o cap) a) : a.ok B ∧ a.kids.length ≤ maxLen ∧ ∃ g, f = g + 1 := by
  cases f with
  | zero => cases h
  | succ f =>
    obtain ⟨o2, cap2, e, h2, h3, _, h5, _⟩ := h
    exact ⟨h2, Nat.le_trans h3 h5, f, rfl⟩
/-- The answer, of any node. -/
def mayZ (ns : List Nd) (at' : Int) (f : Nat) (a : Arr) : Bool := hasB ns at' && mayF ns f at'.toNat a
end Go.Proofs.YtcpfhfdgfcilaaaGreatDoor.Arr
namespace Go.Proofs.YtcpfhfdgfcilaaaGreatDoor.Arr
open Go.ChangeShapes Go.WideShapes Go.ChangeAt Go.RowKit
open Tree Val

/-- What a kid is asked with: what is held of it, and its own answer. -/
structure Env (w : World) (F bA bh bt : Nat) (a : Arr) (oA : Option Addr) (capA : Nat) (ns : List Nd) (oT : Option Addr) (capT : Nat) : Prop where
  fn : w.cell? ⟨bh, 0, none⟩ = some (.func (.func F) #[] #[.pointer (some ⟨bA, 0, none⟩)])
  ty : w.cell? ⟨bt, 0, none⟩ = some (.slice oT ns.length capT)
  bx : Bx w bA a oA capA
  is : IsT w oT ns
theorem Env.later {w w' : World} {F bA bh bt : Nat} {a : Arr} {oA : Option Addr} {capA : Nat} {ns : List Nd} {oT : Option Addr} {capT : Nat} (h : Env w F bA bh bt a oA capA ns oT capT) (hb : Below w.heap.size w w') : Env w' F bA bh bt a oA capA ns oT capT :=
  ⟨cell_later hb h.fn, cell_later hb h.ty, h.bx.later hb, h.is.later hb⟩
/-- Kids of an array in memory, so deep. -/
structure KidsIn (B bytes f : Nat) (w : World) (x : Addr) (a : Arr) : Prop where
  all : ∀ i, i < a.kids.length → ∃ o cap, Kid w (x.add (i * 7)) (kidAt a i) o cap ∧ HoldsF B bytes w f ((kidAt a i).cells o cap) (kidAt a i)
theorem KidsIn.later {B bytes f : Nat} {w w' : World} {x : Addr} {a : Arr} (h : KidsIn B bytes f w x a) (hb : Below w.heap.size w w') : KidsIn B bytes f w' x a :=
  ⟨fun i hi => by obtain ⟨o, cap, h1, h2⟩ := h.all i hi; exact ⟨o, cap, h1.later hb, h2.later hb⟩⟩
end Go.Proofs.YtcpfhfdgfcilaaaGreatDoor.Arr
namespace Go.Proofs.YtcpfhfdgfcilaaaGreatDoor.Arr
open Go.ChangeShapes Go.WideShapes Go.ChangeAt Go.RowKit
open Tree Val

theorem kids_lt {ns : List Nd} (a : Nat) : ∀ j, j < (kids ns a).length → (kids ns a).getD j 0 < ns.length := by
  have key : ∀ k, ∀ u ∈ kidsTo ns a k, u < k := by
    intro k
    induction k with
    | zero => intro u hu; cases hu
    | succ k ih =>
      intro u hu
      rw [kidsTo] at hu
      split at hu
      · rcases List.mem_append.1 hu with c | c
        · have := ih u c; omega
        · rw [List.mem_singleton] at c; omega
      · have := ih u hu; omega
  intro j hj
  refine key ns.length _ ?_
  rw [List.getD_eq_getElem?_getD, List.getElem?_eq_getElem hj]
  exact List.getElem_mem hj
end Go.Proofs.YtcpfhfdgfcilaaaGreatDoor.Arr
namespace Go.Proofs.YtcpfhfdgfcilaaaGreatDoor.Arr
open Go.ChangeShapes Go.WideShapes Go.ChangeAt Go.RowKit
open Tree Val

/-- The cells of an array in a box, in every world in which it still stands. -/
structure Cells (w3 : World) (b : Nat) (a : Arr) (o : Option Addr) (cap : Nat) : Prop where
  d0 : ∀ s : BW w3, s.w.cell? ⟨b, 0, none⟩ = some (.int .i64 a.layout)
  d1 : ∀ s : BW w3, s.w.cell? ⟨b, 1, none⟩ = some (.int .i64 a.offset)
  d2 : ∀ s : BW w3, s.w.cell? ⟨b, 2, none⟩ = some (.int .i64 a.length)
  d3 : ∀ s : BW w3, s.w.cell? ⟨b, 3, none⟩ = some (.string a.valid)
  d4 : ∀ s : BW w3, s.w.cell? ⟨b, 4, none⟩ = some (.string a.ends)
  d5 : ∀ s : BW w3, s.w.cell? ⟨b, 5, none⟩ = some (.string a.data)
  d6 : ∀ s : BW w3, s.w.cell? ⟨b, 6, none⟩ = some (.slice o a.kids.length cap)
theorem Bx.cells {w3 : World} {b : Nat} {a : Arr} {o : Option Addr} {cap : Nat} (h : Bx w3 b a o cap) : Cells w3 b a o cap :=
  ⟨fun s => (h.later s.ok).c0, fun s => (h.later s.ok).c1, fun s => (h.later s.ok).c2, fun s => (h.later s.ok).c3, fun s => (h.later s.ok).c4, fun s => (h.later s.ok).c5, fun s => (h.later s.ok).c6⟩
end Go.Proofs.YtcpfhfdgfcilaaaGreatDoor.Arr
