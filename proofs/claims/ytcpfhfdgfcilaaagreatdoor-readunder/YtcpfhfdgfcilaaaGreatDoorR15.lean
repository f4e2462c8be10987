/-
  Several texts in one: A row's value, by the document: a list: contract. · A row's value, by the document: a struct: contract. · All rows' values, by the document: Values: contract. · A taker's bytes: contracts.
-/
import Derived.Test.YtcpfhfdgfcilaaaGreatDoorR14
import Derived.Test.YtcpfhfdgfcilaaaGreatDoorR09
import Derived.Test.YtcpfhfdgfcilaaaGreatDoorR12
import Derived.Maps.AppendAt
import Derived.OneCell
import Derived.Laws.OwnMore
import Derived.Test.YtcpfhfdgfcilaaaGreatDoorR11
set_option linter.unusedVariables false
set_option linter.unusedSimpArgs false
namespace Go.Proofs.YtcpfhfdgfcilaaaGreatDoor.Arr
open Go.ChangeShapes Go.WideShapes Go.ChangeAt Go.RowKit
open Tree Val

theorem info9 : (Tryz.prog.info? 9).map (fun i => (i.zero, i.size, i.bytes)) = some (some (.string ⟨#[]⟩), 1, 16) := by kernel_rfl
theorem at_list {ns : List Nd} {n f : Nat} {a : Arr} (hh : Head ns n a) (hp : plainB (mayF ns f) ns n a = true) (hk : (nd ns n).kind = 3) {row : Nat} (hr : (row : Int) < a.length) : has4 a.ends (row + a.offset.toNat) = true ∧ has4 a.ends (row + a.offset.toNat + 1) = true ∧ endAt a.ends (row + a.offset.toNat) ≤ endAt a.ends (row + a.offset.toNat + 1) ∧ (endAt a.ends (row + a.offset.toNat + 1) : Int) ≤ (kidAt a 0).length ∧ a.kids.length = 1 ∧ mayF ns f (kAt ns n 0) (kidAt a 0) = true := by
  have hl := list_of hk hp
  unfold plainB at hp
  rw [if_neg (by omega), if_neg (by omega), if_neg (by omega), if_pos hk] at hp
  simp only [Bool.and_eq_true, decide_eq_true_eq] at hp
  have ho := hh.off
  have hE := hl.ends
  exact ⟨(has4_iff _ _).2 ⟨hE.size _ (by unfold rowsOf; omega), hE.most _ (by unfold rowsOf; omega)⟩, (has4_iff _ _).2 ⟨hE.size _ (by unfold rowsOf; omega), hE.most _ (by unfold rowsOf; omega)⟩, hE.mono (by omega) (by unfold rowsOf; omega), hE.last _ (by unfold rowsOf; omega), hp.1.1.2, hl.may⟩
/-- Texts that are told one behind the other. -/
def told (g : Nat → List UInt8) (k : Nat) : List ByteArray := (List.range k).map fun j => mk (g j)
theorem told_snoc (g : Nat → List UInt8) (k : Nat) : told g (k + 1) = told g k ++ [mk (g k)] := by simp [told, List.range_succ]
theorem length_told (g : Nat → List UInt8) (k : Nat) : (told g k).length = k := by simp [told]
theorem told_bl (g : Nat → List UInt8) (k : Nat) : (told g k).map bl = (List.range k).map g := by
  simp only [told, List.map_map]
  exact List.map_congr_left fun j _ => bl_mk _
theorem told_flat (g : Nat → List UInt8) (m : Nat) : ∀ k, (∀ j, j < k → (g j).length ≤ m) → (flat (told g k)).length ≤ m * k := by
  intro k
  induction k with
  | zero => intro _; exact Nat.zero_le _
  | succ k ih =>
    intro h
    rw [told_snoc]
    have e : (flat (told g k ++ [mk (g k)])).length = (flat (told g k)).length + (g k).length := by
      simp [flat]
      exact congrArg List.length (bl_mk _)
    rw [e]
    have := h k (Nat.lt_succ_self k)
    have := ih fun j hj => h j (by omega)
    rw [Nat.mul_succ]
    omega
/-- An append that is carried out. -/
theorem upon_append {P : Program} {o : Oper} {a : Act} {w w' : World} {s x : Operand} {t ty : TypeId} {v' sv xv : Value} {K : Act → World → Prop} {Q : Exit → Act → World → Prop} (ho : o.op = .call { callee := .builtin .append, args := #[s, x], argTypes := #[t, t] }) (hty : o.type = ty) (hs : a.eval s = sv) (hx : a.eval x = xv)
    (hr : (Builtin.append_ #[t, t] ty #[sv, xv]).run P w = .ok v' w') (hK : K (a.put o.dst v') w') : Oper.wp P o a w K Q := by
  subst hty hs hx
  unfold Oper.wp execOp
  simp only [ho, resolve, invoke, builtin, Sem.run_bind, Sem.run_pure, Result.andThen_ok, List.map_toArray, List.map_cons, List.map_nil, hr]
  exact hK
end Go.Proofs.YtcpfhfdgfcilaaaGreatDoor.Arr
set_option linter.unusedVariables false
set_option linter.unusedSimpArgs false
namespace Go.Proofs.YtcpfhfdgfcilaaaGreatDoor.Arr
open Go.ChangeShapes Go.WideShapes Go.ChangeAt Go.RowKit
open Tree Val

theorem at_struct {ns : List Nd} {n f : Nat} {a : Arr} (hh : Head ns n a) (hp : plainB (mayF ns f) ns n a = true) (hk : (nd ns n).kind = 4) {row : Nat} (hr : (row : Int) < a.length) : a.kids.length = (kids ns n).length ∧ ∀ i, i < (kids ns n).length → mayF ns f (kAt ns n i) (kidAt a i) = true ∧ ((row + a.offset.toNat : Nat) : Int) < (kidAt a i).length := by
  have hl := struct_of hk hp
  unfold plainB at hp
  rw [if_neg (by omega), if_neg (by omega), if_neg (by omega), if_neg (by omega)] at hp
  simp only [Bool.and_eq_true, decide_eq_true_eq] at hp
  have ho := hh.off
  refine ⟨hp.1.2, fun i hi => ⟨hl.may i hi, ?_⟩⟩
  have := hl.rows i hi
  unfold rowsOf at this
  omega
end Go.Proofs.YtcpfhfdgfcilaaaGreatDoor.Arr
namespace Go.Proofs.YtcpfhfdgfcilaaaGreatDoor.Arr
open Go.ChangeShapes Go.WideShapes Go.ChangeAt Go.RowKit
open Tree Val

/-- What all rows are, of any node; with it the error's number. -/
def valsA (ns : List Nd) (at' : Int) (f : Nat) (a : Arr) : List ByteArray := if mayZ ns at' f a = true then told (rowF ns f at'.toNat a) a.length.toNat else []
def valsE (ns : List Nd) (at' : Int) (f : Nat) (a : Arr) : Int := if mayZ ns at' f a = true then 0 else 900
theorem may_head {ns : List Nd} {x : Int} {f : Nat} {a : Arr} (h : mayZ ns x (f + 1) a = true) : ∃ n : Nat, x = (n : Int) ∧ n < ns.length ∧ may ns = true ∧ mayF ns (f + 1) n a = true ∧ Head ns n a := by
  unfold mayZ at h
  rw [Bool.and_eq_true] at h
  obtain ⟨n, rfl, hn, hM⟩ := has_of h.1
  have hm : may ns = true := by have := h.1; unfold hasB at this; rw [Bool.and_eq_true] at this; exact this.2
  exact ⟨n, rfl, hn, hm, h.2, (mayF_cases h.2).1⟩
end Go.Proofs.YtcpfhfdgfcilaaaGreatDoor.Arr
namespace Go.Proofs.YtcpfhfdgfcilaaaGreatDoor.Val
open Go.ChangeShapes Go.WideShapes Go.ChangeAt Go.RowKit

end Go.Proofs.YtcpfhfdgfcilaaaGreatDoor.Val
