/-
  A type that came in (a struct that holds a list of nodes, each a kind, a parent and a truth), opened at every node: what the walks of the laws over types are told. Over whatever program.
-/
import Derived.WalkKit
import Derived.ProofKit
import Derived.OpenShut
import Derived.ChangeOld
import Derived.Below
import Derived.SizedLaws
import Derived.Deep.Slices
import Derived.Deep.Strs
import Derived.Test.YtejgjipmnmfkcaaGreatDoorTree
namespace Go.Proofs.YtejgjipmnmfkcaaGreatDoor.Tree
open Go.ChangeShapes Go.WideShapes Go.ChangeAt Go.RowKit

/-- A node whose numbers are ints. -/
def Nd.ok (n : Nd) : Prop := (Lit.int .i64 n.kind).wf = true ∧ (Lit.int .i64 n.par).wf = true
/-- The nodes lie so, three cells each, from a on. -/
structure Lies (w : World) (a : Addr) (ns : List Nd) : Prop where
  kind : ∀ i, i < ns.length → w.cell? (a.add (i * 3)) = some (.int .i64 (ns.getD i ⟨0, 0, false⟩).kind)
  par : ∀ i, i < ns.length → w.cell? (a.add (i * 3 + 1)) = some (.int .i64 (ns.getD i ⟨0, 0, false⟩).par)
  null : ∀ i, i < ns.length → w.cell? (a.add (i * 3 + 2)) = some (.bool (ns.getD i ⟨0, 0, false⟩).null)
/-- A list of nodes that came in: nil, or a row of 'cap' nodes, 'len' of them its own. -/
def IsNodes (w : World) (a : Option Addr) (len cap : Nat) (ns : List Nd) : Prop :=
  (a = none ∧ len = 0 ∧ cap = 0 ∧ ns = []) ∨
  ∃ x, a = some x ∧ len ≤ cap ∧ cap ≤ maxLen ∧ ns.length = cap ∧ Lies w x ns ∧ ∀ i, i < ns.length → (ns.getD i ⟨0, 0, false⟩).ok

section
variable {H : Type} {enc : TypeId × Value → H} {P : Program} {w : World} {base : Nat} {held : Bool}

theorem open_nodes {t e : TypeId} {f0 f1 f2 : Field} {fuel : Nat} {cs : List Value} {x : DataW H × List MemPlace} (ht : P.underlying t = some (.slice e)) (he : P.underlying e = some (.struct #[f0, f1, f2]))
    (ce : P.cellsOf e = 3) (o0 : f0.offset = 0) (o1 : f1.offset = 1) (o2 : f2.offset = 2) (c0 : P.cellsOf f0.type = 1) (c1 : P.cellsOf f1.type = 1) (c2 : P.cellsOf f2.type = 1)
    (u0 : P.underlying f0.type = some (.int .i64)) (u1 : P.underlying f1.type = some (.int .i64)) (u2 : P.underlying f2.type = some .bool)
    (h : DataW.trod enc P w base (fun _ => true) held fuel t cs = some x) :
    ∃ a len cap ns, cs = [.slice a len cap] ∧ IsNodes w a len cap ns ∧ (x.1 = .nil ∧ cap = 0 ∨ ∃ es sp : List (DataW H), x.1 = .slice es sp ∧ es.length + sp.length = cap) := by
  rcases Deep.open_slice ht h with ⟨h0, h1⟩ | ⟨a, len, cap, m, n, D, Pl, rfl, hb, hl, hm, hmm, rfl, hx⟩
  · exact ⟨none, 0, 0, [], h0, .inl ⟨rfl, rfl, rfl, rfl⟩, .inl ⟨by rw [h1], rfl⟩⟩
  rw [if_pos rfl] at hmm
  subst hmm
  have each : ∀ i, i < m → ∃ q : Nd, w.cell? (a.add (i * 3)) = some (.int .i64 q.kind) ∧ w.cell? (a.add (i * 3 + 1)) = some (.int .i64 q.par) ∧ w.cell? (a.add (i * 3 + 2)) = some (.bool q.null) ∧ q.ok := by
    intro i hi
    obtain ⟨cs', h1, h2⟩ := hx i hi
    rw [ce] at h1
    obtain ⟨_, hlen, hcell⟩ := World.cells?_some h1
    obtain ⟨y0, y1, y2, k, _, _, g0, g1, g2⟩ := Deep.trod_struct3 he h2
    match cs', hlen with
    | [v0, v1, v2], _ =>
      simp [o0, o1, o2, c0, c1, c2] at g0 g1 g2
      obtain ⟨n0, e0, _, w0⟩ := DataW.trod_int u0 g0
      obtain ⟨n1, e1, _, w1⟩ := DataW.trod_int u1 g1
      obtain ⟨b2, e2, _⟩ := DataW.trod_bool u2 g2
      have q0 := hcell 0 (by omega)
      have q1 := hcell 1 (by omega)
      have q2 := hcell 2 (by omega)
      rw [Deep.add_add] at q0 q1 q2
      simp at e0 e1 e2
      subst e0 e1 e2
      exact ⟨⟨n0, n1, b2⟩, by simpa using q0, by simpa using q1, by simpa using q2, w0, w1⟩
  have inh : Inhabited Nd := ⟨⟨0, 0, false⟩⟩
  obtain ⟨q, hq⟩ := Deep.choose_lt each
  have hg : ∀ i, i < m → ((List.range m).map q).getD i ⟨0, 0, false⟩ = q i := by
    intro i hi
    simp [List.getD, hi]
  refine ⟨some a, len, m, (List.range m).map q, rfl, .inr ⟨a, rfl, hl, hm, by simp, ⟨?_, ?_, ?_⟩, ?_⟩, .inr ⟨_, _, rfl, by simp; omega⟩⟩
  · intro i hi
    simp at hi
    rw [hg i hi]
    exact (hq i hi).1
  · intro i hi
    simp at hi
    rw [hg i hi]
    exact (hq i hi).2.1
  · intro i hi
    simp at hi
    rw [hg i hi]
    exact (hq i hi).2.2.1
  · intro i hi
    simp at hi
    rw [hg i hi]
    exact (hq i hi).2.2.2

/-- The type itself: a struct that holds the list. -/
theorem open_type {r : Reach} {b0 : Nat} {T t e : TypeId} {g f0 f1 f2 : Field} {v : Value} {d : DataW H} {ps : List MemPlace} (hT : P.underlying T = some (.struct #[g])) (gt : g.type = t) (go : g.offset = 0) (cT : P.cellsOf T = 1) (ct : P.cellsOf t = 1)
    (ht : P.underlying t = some (.slice e)) (he : P.underlying e = some (.struct #[f0, f1, f2]))
    (ce : P.cellsOf e = 3) (o0 : f0.offset = 0) (o1 : f1.offset = 1) (o2 : f2.offset = 2) (c0 : P.cellsOf f0.type = 1) (c1 : P.cellsOf f1.type = 1) (c2 : P.cellsOf f2.type = 1)
    (u0 : P.underlying f0.type = some (.int .i64)) (u1 : P.underlying f1.type = some (.int .i64)) (u2 : P.underlying f2.type = some .bool)
    (hval : Value.okWide P w r b0 T v) (hd : DataW.Trod enc P w base (fun _ => true) held T v d ps) :
    ∃ a len cap ns, v = .agg #[.slice a len cap] ∧ IsNodes w a len cap ns ∧ ∃ y : DataW H, d = .agg [y] ∧ (y = .nil ∧ cap = 0 ∨ ∃ es sp : List (DataW H), y = .slice es sp ∧ es.length + sp.length = cap) := by
  subst gt
  obtain ⟨cs, rfl, hcs⟩ := okWide_struct hT hval
  rw [cT] at hcs
  obtain ⟨fuel, hf⟩ := hd
  obtain ⟨y, n, hx, _, h0⟩ := trod_struct1 hT hf
  have hc1 : (((Value.agg cs).cells.toList.drop g.offset).take (P.cellsOf g.type)) = cs.toList := by
    rw [go, ct, List.drop_zero]
    show cs.toList.take 1 = cs.toList
    exact List.take_of_length_le (by simp [hcs])
  rw [hc1] at h0
  obtain ⟨a, len, cap, ns, h1, h2, h3⟩ := open_nodes ht he ce o0 o1 o2 c0 c1 c2 u0 u1 u2 h0
  refine ⟨a, len, cap, ns, ?_, h2, y.1, by simpa using (Prod.mk.inj hx).1, h3⟩
  cases cs
  simp at h1
  rw [h1]
theorem sized_type {ts : List TypeId} {ds : List (DataW H)} (h : (DataW.weightsEach P ts ds).all (· ≤ reachBytes) = true) {j T e : Nat} {g : Field} {cap : Nat} {y : DataW H} (hj : ts[j]? = some T) (hd : ds[j]? = some (.agg [y])) (hT : P.underlying T = some (.struct #[g])) (ht : P.underlying g.type = some (.slice e))
    (hy : y = .nil ∧ cap = 0 ∨ ∃ es sp : List (DataW H), y = .slice es sp ∧ es.length + sp.length = cap) : cap * P.bytesOf e ≤ reachBytes := by
  rcases hy with ⟨rfl, rfl⟩ | ⟨es, sp, rfl, rfl⟩
  · simp
  · have := List.all_eq_true.1 h _ (DataW.weights_mem_each hj hd ((es.length + sp.length) * P.bytesOf e) (by simp [DataW.weights, DataW.weightsEach, hT, ht]))
    simpa using this
end
end Go.Proofs.YtejgjipmnmfkcaaGreatDoor.Tree
