/-
  Arrays: May, the program's and the document's, answer alike for every array; what was handed in stays.
-/
import Derived.Test.YtbekelnhlfghlaaRows
import Derived.WalkKit
import Derived.ProofKit
import Derived.OpenShut
import Derived.ShutString
import Derived.ChangeOld
import Derived.Below
import Derived.SizedLaws
import Derived.Deep.QuietTactic
import Derived.WalkSmall
import Derived.BigQuiet
import Derived.Deep.RegionWith
import Derived.OwnWalk
import Derived.RegionTactic
import Derived.ChangeAlike
import Derived.Deep.CutBlock
import Derived.Maps.AppendAt
import Derived.OneCell
import Derived.Test.YtbekelnhlfghlaaB01
import Derived.Test.YtbekelnhlfghlaaB02
import Derived.Test.YtbekelnhlfghlaaB09
import Derived.Test.YtbekelnhlfghlaaB13
namespace Go.Proofs.Ytbekelnhlfghlaa.arrays
open Go.ChangeShapes Go.WideShapes Go.ChangeAt Go.RowKit
open Go.ChangeMaps (open_string shut_string)
set_option linter.unusedVariables false

theorem own : ownKnob Try.prog.godebug = none := by kernel_rfl
theorem laidOut : laidOutB Try.prog = true := by kernel_rfl

open Tree Arr
/-- A type that came in: nil, or its nodes lie somewhere. -/
def CoN (w : World) (a : Option Addr) (cap : Nat) (l : List Nd) : Prop := a = none ∧ l = [] ∧ cap = 0 ∨ ∃ x, a = some x ∧ Lies w x l
theorem CoN.later {w w' : World} {a : Option Addr} {cap : Nat} {l : List Nd} (h : CoN w a cap l) (hb : Below w.heap.size w w') : CoN w' a cap l :=
  h.imp id fun ⟨x, e, hl⟩ => ⟨x, e, hl.later hb⟩
/-- A copy of a type that came in, a row of its own. -/
theorem copyO {w : World} {a : Option Addr} {cap : Nat} {l : List Nd} (h : CoN w a cap l) (hlen : l.length * 24 ≤ 140737488355328) :
    Calls Try.prog 7 #[.agg #[.slice a l.length cap]] w fun r w' => ∃ o c, r = .returned (.agg #[.slice o l.length c]) ∧ w'.ownsRow w.heap.size 35 3 (.slice o l.length c) l.length (cellsN l) ∧ Below w.heap.size w w' := by
  rcases h with ⟨rfl, rfl, rfl⟩ | ⟨x, rfl, hl⟩
  · exact copyNil w
  · exact copyT x cap l w hl hlen
theorem blk_later {w w' : World} {g : Nat} {o : Obj} (h : w.heap[g]? = some o) (hb : Below w.heap.size w w') : w'.heap[g]? = some o := (hb.block g (Array.getElem?_eq_some_iff.1 h).1).trans h
theorem own_keep {w w' : World} {base e size n : Nat} {v : Value} {xs : List Value} (h : w.ownsRow base e size v n xs) (hk : ∀ g, v.ownBlock = some g → w'.heap[g]? = w.heap[g]?) : w'.ownsRow base e size v n xs := by
  refine ⟨h.1, h.2.imp id ?_⟩
  rintro ⟨g, cap, cur, e1, e2, e3, e4⟩
  exact ⟨g, cap, cur, e1, e2, (hk g (by rw [e1]; rfl)).trans e3, e4⟩
/-- Where the law stands behind its first line. -/
def Start (w3 : World) (ns : List Nd) (a : Arr.Arr) (f : Nat) (u v : Value) (wx : World) : Prop :=
  ∃ (p7 p8 : Nat) (oU : Option Addr) (cU : Nat) (o' : Option Addr) (c' : Nat), u = .pointer (some ⟨p7, 0, none⟩) ∧ v = .pointer (some ⟨p8, 0, none⟩) ∧ wx.cell? ⟨p7, 0, none⟩ = some (.slice oU ns.length cU) ∧ IsT wx oU ns ∧ Bx wx p8 a o' c' ∧ HoldsF (upB 140737488351232) 96 wx (f + 1) (a.cells o' c') a ∧ Below w3.heap.size w3 wx
theorem startAll {w3 v4 : World} {ns : List Nd} {a : Arr.Arr} {f p7 p8 cU c' bU : Nat} {oU o' : Option Addr} (h7 : v4.heap[p7]? = some (.cells #[.slice none 0 0] 24)) (h8 : Bx v4 p8 nil none 0) (hne : p7 ≠ p8) (h37 : w3.heap.size ≤ p7) (h38 : w3.heap.size ≤ p8)
    (hU : v4.ownsRow bU 35 3 (.slice oU ns.length cU) ns.length (cellsN ns)) (hn : ∀ g, (Value.slice oU ns.length cU).ownBlock = some g → g ≠ p7 ∧ g ≠ p8) (hA : HoldsO 140737488351232 v4 (f + 1) (fun b => b ≠ p7 ∧ b ≠ p8) (a.cells o' c') a) (hB : Below w3.heap.size w3 v4) :
    Start w3 ns a f (.pointer (some ⟨p7, 0, none⟩)) (.pointer (some ⟨p8, 0, none⟩)) ((((((((v4.setCell ⟨p7, 0, none⟩ (.slice oU ns.length cU)).setCell ⟨p8, 0, none⟩ (.int .i64 a.layout)).setCell ⟨p8, 1, none⟩ (.int .i64 a.offset)).setCell ⟨p8, 2, none⟩ (.int .i64 a.length)).setCell ⟨p8, 3, none⟩ (.string a.valid)).setCell ⟨p8, 4, none⟩ (.string a.ends)).setCell ⟨p8, 5, none⟩ (.string a.data)).setCell ⟨p8, 6, none⟩ (.slice o' a.kids.length c')) := by
  have hb : Bx (v4.setCell ⟨p7, 0, none⟩ (.slice oU ns.length cU)) p8 nil none 0 := ⟨(Below.heap_setCell _ _ _ _ (Ne.symm hne)).trans h8.blk⟩
  obtain ⟨w9, e9, x9, h9, b9⟩ := set7 hb a o' c'
  rw [e9]
  have hk : ∀ b, b ≠ p7 → b ≠ p8 → w9.heap[b]? = v4.heap[b]? := fun b h1 h2 => (h9 b h2).trans (Below.heap_setCell _ _ _ _ h1)
  refine ⟨p7, p8, oU, cU, o', c', rfl, rfl, ?_, own_lies (own_keep hU fun g hg => hk g (hn g hg).1 (hn g hg).2), x9, (hA.stays (fun b hb => hk b hb.1 hb.2) (fun b hb => hb)).holds, (hB.setCell h37 _).trans (b9 _ h38)⟩
  have e := (h9 p7 hne).trans (blk_set h7 0 (.slice oU ns.length cU))
  simp [World.cell?, e]
set_option maxRecDepth 20000 in
set_option maxHeartbeats 4000000 in
theorem walk (a0 : Option Addr) (len0 cap0 : Nat) (z0 : List Tree.Nd) (a1 : Int) (fq2 : Nat) (a2 : Arr.Arr) (oq2 : Option Addr) (cq2 : Nat) (w : World) (hp0 : Tree.IsNodes w a0 len0 cap0 z0) (hs0 : cap0 * 24 ≤ 140737488351232) (hp1 : (Lit.int .i64 a1).wf = true) (hp2 : Hid (Arr.HoldsF 140737488351232 96 w (fq2 + 1) (a2.cells oq2 cq2) a2)) :
    Calls Try.prog 3 #[.agg #[.slice a0 len0 cap0], .int .i64 a1, a2.val oq2 cq2] w fun e w' => e = .returned (.bool true) ∧ Below w.heap.size w w' := by
  obtain ⟨ns, rfl, hT, hlc, hco⟩ := isT_of hp0
  have HT : Hid (IsT w a0 ns) := hT
  obtain ⟨w2, e2, hs2, c2, b2⟩ := boxed w (.slice a0 ns.length cap0) 24
  obtain ⟨w3, e3, x3, b3, z3⟩ := box7 w2 a2 oq2 cq2
  have hs2' : w.heap.size < w2.heap.size := hs2
  have B3 : Hid (Below w.heap.size w w3) := bel2 b2 b3
  have X3 : Hid (Bx w3 w2.heap.size a2 oq2 cq2) := x3
  have C3 : Hid (w3.cell? ⟨w.heap.size, 0, none⟩ = some (.slice a0 ns.length cap0)) := cell_later b3 c2
  have HH : Hid (HoldsF 140737488351232 96 w (fq2 + 1) (a2.cells oq2 cq2) a2) := hp2
  have KLA : Hid (∀ W', Below w3.heap.size w3 W' → (W'.cell? ⟨w.heap.size, 0, none⟩ = some (.slice a0 ns.length cap0) ∧ W'.cell? ⟨w2.heap.size, 0, none⟩ = some (.int .i64 a2.layout) ∧ W'.cell? ⟨w2.heap.size, 1, none⟩ = some (.int .i64 a2.offset) ∧ W'.cell? ⟨w2.heap.size, 2, none⟩ = some (.int .i64 a2.length) ∧ W'.cell? ⟨w2.heap.size, 3, none⟩ = some (.string a2.valid) ∧ W'.cell? ⟨w2.heap.size, 4, none⟩ = some (.string a2.ends) ∧ W'.cell? ⟨w2.heap.size, 5, none⟩ = some (.string a2.data) ∧ W'.cell? ⟨w2.heap.size, 6, none⟩ = some (.slice oq2 a2.kids.length cq2))) := fun W' hb => by
    have Y := X3.out.later hb
    exact ⟨cell_later hb C3.out, Y.c0, Y.c1, Y.c2, Y.c3, Y.c4, Y.c5, Y.c6⟩
  have HCN : Hid (∀ v, Below w3.heap.size w3 v → Calls Try.prog 7 #[.agg #[.slice a0 ns.length cap0]] v fun r w' => ∃ o c, r = .returned (.agg #[.slice o ns.length c]) ∧ w'.ownsRow v.heap.size 35 3 (.slice o ns.length c) ns.length (cellsN ns) ∧ Below v.heap.size v w') := fun v hv => copyO (CoN.later (show CoN w a0 cap0 ns from hco) (bel2 B3.out hv)) (by omega)
  have HCA : Hid (∀ v, Below w3.heap.size w3 v → Calls Try.prog 8 #[a2.val oq2 cq2] v fun r w' => ∃ o' cap', r = .returned (a2.val o' cap') ∧ HoldsO 140737488351232 w' (fq2 + 1) (fun b => v.heap.size ≤ b) (a2.cells o' cap') a2 ∧ Below v.heap.size v w') := fun v hv => Arr.copyA 140737488351232 (by decide) (fq2 + 1) a2 oq2 cq2 v (HH.out.later (bel2 B3.out hv))
  have KR : Hid (w3.drew.cell? ⟨w.heap.size, 0, none⟩ = some (.slice a0 ns.length cap0) ∧ w3.drew.cell? ⟨w2.heap.size, 0, none⟩ = some (.int .i64 a2.layout) ∧ w3.drew.cell? ⟨w2.heap.size, 1, none⟩ = some (.int .i64 a2.offset) ∧ w3.drew.cell? ⟨w2.heap.size, 2, none⟩ = some (.int .i64 a2.length) ∧ w3.drew.cell? ⟨w2.heap.size, 3, none⟩ = some (.string a2.valid) ∧ w3.drew.cell? ⟨w2.heap.size, 4, none⟩ = some (.string a2.ends) ∧ w3.drew.cell? ⟨w2.heap.size, 5, none⟩ = some (.string a2.data) ∧ w3.drew.cell? ⟨w2.heap.size, 6, none⟩ = some (.slice oq2 a2.kids.length cq2)) := KLA.out _ (drewN_below w3 1)
  clear hp0 hco hT b2 b3 x3 hs2 z3 c2 hp2
  unfold Arr.val at HCA ⊢
  go_enter Try.func3, Try.ntmps3
  go_upto_region 1 with fail
  go_cut [7, 8] from 9 (fun u v wx => Start w3 ns a2 fq2 u v wx)
  case first =>
    refine wp_region_noPanic ?_
    refine wp_region_held_drew (S := fun W : World => W.cell? ⟨w.heap.size, 0, none⟩ = some (.slice a0 ns.length cap0) ∧ W.cell? ⟨w2.heap.size, 0, none⟩ = some (.int .i64 a2.layout) ∧ W.cell? ⟨w2.heap.size, 1, none⟩ = some (.int .i64 a2.offset) ∧ W.cell? ⟨w2.heap.size, 2, none⟩ = some (.int .i64 a2.length) ∧ W.cell? ⟨w2.heap.size, 3, none⟩ = some (.string a2.valid) ∧ W.cell? ⟨w2.heap.size, 4, none⟩ = some (.string a2.ends) ∧ W.cell? ⟨w2.heap.size, 5, none⟩ = some (.string a2.data) ∧ W.cell? ⟨w2.heap.size, 6, none⟩ = some (.slice oq2 a2.kids.length cq2)) (by kernel_rfl) KR.out (fun h0 => ?_)
    refine take_at (i := 0) (d := some 9) (v := ?v0) rfl rfl (by kernel_rfl) (by kernel_rfl) (by kernel_rfl) (fun _ _ _ h => h) (Or.inl ⟨by rfl, ?y0⟩) h0 ?r0
    case y0 => (intro w' hSw; (try dsimp only at hSw); go_simp; try with_reducible rfl)
    try simp only [Act.put, List.setIfInBounds_toArray, List.set_cons_zero, List.set_cons_succ]
    refine take_at (i := 2) (d := some 11) (v := ?v2) rfl rfl (by kernel_rfl) (by kernel_rfl) (by kernel_rfl) (fun _ _ _ h => h) (Or.inl ⟨by rfl, ?y2⟩) h0 ?r2
    case y2 => (intro w' hSw; (try dsimp only at hSw); go_simp; try with_reducible rfl)
    try simp only [Act.put, List.setIfInBounds_toArray, List.set_cons_zero, List.set_cons_succ]
    have D0 : Hid (Below w3.heap.size w3 w3.drew) := drewN_below w3 1
    generalize w3.drew = v0 at *
    refine wpAnyH_ready (rs := [1, 4, 5]) (by kernel_rfl) (by simp) ?_
    refine AllReadyH.cons rfl (fun K hK => ?_) (AllReadyH.cons rfl (fun K hK => ?_) (AllReadyH.cons rfl (fun K hK => ?_) AllReadyH.nil))
    · go_simp
      go_at_call 7
      refine (HCN.out v0 D0.out).mono ?_
      rintro e v1 ⟨oU, cU, rfl, hU, b0⟩
      have s0 := b0.size
      have D1 : Hid (Below w3.heap.size w3 v1) := bel2 D0.out b0
      have K1 : Hid (v1.cell? ⟨w.heap.size, 0, none⟩ = some (.slice a0 ns.length cap0) ∧ v1.cell? ⟨w2.heap.size, 0, none⟩ = some (.int .i64 a2.layout) ∧ v1.cell? ⟨w2.heap.size, 1, none⟩ = some (.int .i64 a2.offset) ∧ v1.cell? ⟨w2.heap.size, 2, none⟩ = some (.int .i64 a2.length) ∧ v1.cell? ⟨w2.heap.size, 3, none⟩ = some (.string a2.valid) ∧ v1.cell? ⟨w2.heap.size, 4, none⟩ = some (.string a2.ends) ∧ v1.cell? ⟨w2.heap.size, 5, none⟩ = some (.string a2.data) ∧ v1.cell? ⟨w2.heap.size, 6, none⟩ = some (.slice oq2 a2.kids.length cq2)) := KLA.out _ D1.out
      refine hK.out _ _ K1.out (fun h1 => ?_)
      clear hK K h0
      try simp only [Act.put, List.setIfInBounds_toArray, List.set_cons_zero, List.set_cons_succ]
      refine wpAnyH_ready (rs := [3, 4, 5]) (by kernel_rfl) (by simp) ?_
      refine AllReadyH.cons rfl (fun K hK => ?_) (AllReadyH.cons rfl (fun K hK => ?_) (AllReadyH.cons rfl (fun K hK => ?_) AllReadyH.nil))
      · go_simp
        go_at_call 8
        refine (HCA.out v1 D1.out).mono ?_
        rintro e v2 ⟨oA, cA, rfl, hA, b1⟩
        have s1 := b1.size
        have D2 : Hid (Below w3.heap.size w3 v2) := bel2 D1.out b1
        have K2 : Hid (v2.cell? ⟨w.heap.size, 0, none⟩ = some (.slice a0 ns.length cap0) ∧ v2.cell? ⟨w2.heap.size, 0, none⟩ = some (.int .i64 a2.layout) ∧ v2.cell? ⟨w2.heap.size, 1, none⟩ = some (.int .i64 a2.offset) ∧ v2.cell? ⟨w2.heap.size, 2, none⟩ = some (.int .i64 a2.length) ∧ v2.cell? ⟨w2.heap.size, 3, none⟩ = some (.string a2.valid) ∧ v2.cell? ⟨w2.heap.size, 4, none⟩ = some (.string a2.ends) ∧ v2.cell? ⟨w2.heap.size, 5, none⟩ = some (.string a2.data) ∧ v2.cell? ⟨w2.heap.size, 6, none⟩ = some (.slice oq2 a2.kids.length cq2)) := KLA.out _ D2.out
        refine hK.out _ _ K2.out (fun h2 => ?_)
        clear hK K h1
        try simp only [Act.put, List.setIfInBounds_toArray, List.set_cons_zero, List.set_cons_succ]
        refine wpAnyH_ready (rs := [4, 5]) (by kernel_rfl) (by simp) ?_
        refine AllReadyH.cons rfl (fun K hK => ?_) (AllReadyH.cons rfl (fun K hK => ?_) AllReadyH.nil)
        · go_simp
          obtain ⟨v3, e2, s2, c2, b2⟩ := boxed v2 (.slice none 0 0) 24
          rw [e2]
          have q7 : v3.heap[v2.heap.size]? = some (.cells #[.slice none 0 0] 24) := by rw [← e2]; exact heap_alloc_new _ _
          have D3 : Hid (Below w3.heap.size w3 v3) := bel2 D2.out b2
          have K3 : Hid (v3.cell? ⟨w.heap.size, 0, none⟩ = some (.slice a0 ns.length cap0) ∧ v3.cell? ⟨w2.heap.size, 0, none⟩ = some (.int .i64 a2.layout) ∧ v3.cell? ⟨w2.heap.size, 1, none⟩ = some (.int .i64 a2.offset) ∧ v3.cell? ⟨w2.heap.size, 2, none⟩ = some (.int .i64 a2.length) ∧ v3.cell? ⟨w2.heap.size, 3, none⟩ = some (.string a2.valid) ∧ v3.cell? ⟨w2.heap.size, 4, none⟩ = some (.string a2.ends) ∧ v3.cell? ⟨w2.heap.size, 5, none⟩ = some (.string a2.data) ∧ v3.cell? ⟨w2.heap.size, 6, none⟩ = some (.slice oq2 a2.kids.length cq2)) := KLA.out _ D3.out
          refine hK.out _ _ K3.out (fun h3 => ?_)
          clear hK K h2
          try simp only [Act.put, List.setIfInBounds_toArray, List.set_cons_zero, List.set_cons_succ]
          refine wpAnyH_ready (rs := [5]) (by kernel_rfl) (by simp) ?_
          refine AllReadyH.cons rfl (fun K hK => ?_) AllReadyH.nil
          · go_simp
            obtain ⟨v4, e3, x8, b3, s3⟩ := box7 v3 nil none 0
            rw [show v3.alloc (.cells #[.int .i64 0, .int .i64 0, .int .i64 0, .string ⟨#[]⟩, .string ⟨#[]⟩, .string ⟨#[]⟩, .slice none 0 0] 27) = v4 from e3]
            have D4 : Hid (Below w3.heap.size w3 v4) := bel2 D3.out b3
            have K4 : Hid (v4.cell? ⟨w.heap.size, 0, none⟩ = some (.slice a0 ns.length cap0) ∧ v4.cell? ⟨w2.heap.size, 0, none⟩ = some (.int .i64 a2.layout) ∧ v4.cell? ⟨w2.heap.size, 1, none⟩ = some (.int .i64 a2.offset) ∧ v4.cell? ⟨w2.heap.size, 2, none⟩ = some (.int .i64 a2.length) ∧ v4.cell? ⟨w2.heap.size, 3, none⟩ = some (.string a2.valid) ∧ v4.cell? ⟨w2.heap.size, 4, none⟩ = some (.string a2.ends) ∧ v4.cell? ⟨w2.heap.size, 5, none⟩ = some (.string a2.data) ∧ v4.cell? ⟨w2.heap.size, 6, none⟩ = some (.slice oq2 a2.kids.length cq2)) := KLA.out _ D4.out
            refine hK.out _ _ K4.out (fun h4 => ?_)
            clear hK K h3
            try simp only [Act.put, List.setIfInBounds_toArray, List.set_cons_zero, List.set_cons_succ]
            have F7 := blk_later q7 b3
            have F8 := x8.later (Below.refl _ _)
            have FU := ownsRow_grown hU (bel2 b1 (bel2 b2 b3))
            have FA : HoldsO 140737488351232 v4 (fq2 + 1) (fun b => b ≠ v2.heap.size ∧ b ≠ v3.heap.size) (a2.cells oA cA) a2 := hA.lt.stays (fun b hb => Below.block (show Below v2.heap.size v2 v4 from (bel2 b2 b3)) b hb.2) (fun b hb => by have h1 := hb.1; have h2 := hb.2; constructor <;> omega)
            have FN : ∀ g, (Value.slice oU ns.length cU).ownBlock = some g → g ≠ v2.heap.size ∧ g ≠ v3.heap.size := fun g hg => by have h1 := (hU.lt g hg).1; have h2 := (hU.lt g hg).2; constructor <;> omega
            have FZ : Hid (Start w3 ns a2 fq2 (.pointer (some ⟨v2.heap.size, 0, none⟩)) (.pointer (some ⟨v3.heap.size, 0, none⟩)) ((((((((v4.setCell ⟨v2.heap.size, 0, none⟩ (.slice oU ns.length cU)).setCell ⟨v3.heap.size, 0, none⟩ (.int .i64 a2.layout)).setCell ⟨v3.heap.size, 1, none⟩ (.int .i64 a2.offset)).setCell ⟨v3.heap.size, 2, none⟩ (.int .i64 a2.length)).setCell ⟨v3.heap.size, 3, none⟩ (.string a2.valid)).setCell ⟨v3.heap.size, 4, none⟩ (.string a2.ends)).setCell ⟨v3.heap.size, 5, none⟩ (.string a2.data)).setCell ⟨v3.heap.size, 6, none⟩ (.slice oA a2.kids.length cA))) := startAll F7 F8 (by omega) (by have := D2.out.size; omega) (by have := D3.out.size; omega) FU FN FA D4.out
            have m7 : v4.cell? ⟨v2.heap.size, 0, none⟩ = some (.slice none 0 0) := by simp [World.cell?, F7]
            have z7 : v4.frozen? ⟨v2.heap.size, 0, none⟩ = false := by simp [World.frozen?, F7]
            have N8 : v3.heap.size ≠ v2.heap.size := by omega
            have D5 : Hid (Below w3.heap.size w3 (v4.setCell ⟨v2.heap.size, 0, none⟩ (.slice oU ns.length cU))) := D4.out.setCell (by have := D2.out.size; exact this) _
            have x5 : Bx (v4.setCell ⟨v2.heap.size, 0, none⟩ (.slice oU ns.length cU)) v3.heap.size nil none 0 := ⟨(Below.heap_setCell _ _ _ _ N8).trans F8.blk⟩
            clear F7 F8 FU FA FN hU hA q7 x8
            refine wpAnyH_ready (rs := [6]) (by kernel_rfl) (by simp) ?_
            refine AllReadyH.cons rfl (fun K hK => ?_) AllReadyH.nil
            go_simp
            generalize v4.setCell ⟨v2.heap.size, 0, none⟩ (.slice oU ns.length cU) = v5 at *
            have K5 : Hid (v5.cell? ⟨w.heap.size, 0, none⟩ = some (.slice a0 ns.length cap0) ∧ v5.cell? ⟨w2.heap.size, 0, none⟩ = some (.int .i64 a2.layout) ∧ v5.cell? ⟨w2.heap.size, 1, none⟩ = some (.int .i64 a2.offset) ∧ v5.cell? ⟨w2.heap.size, 2, none⟩ = some (.int .i64 a2.length) ∧ v5.cell? ⟨w2.heap.size, 3, none⟩ = some (.string a2.valid) ∧ v5.cell? ⟨w2.heap.size, 4, none⟩ = some (.string a2.ends) ∧ v5.cell? ⟨w2.heap.size, 5, none⟩ = some (.string a2.data) ∧ v5.cell? ⟨w2.heap.size, 6, none⟩ = some (.slice oq2 a2.kids.length cq2)) := KLA.out _ D5.out
            refine hK.out _ _ K5.out (fun h5 => ?_)
            clear hK K h4 m7 z7
            try simp only [Act.put, List.setIfInBounds_toArray, List.set_cons_zero, List.set_cons_succ]
            have g0 := x5.c0
            have g1 := x5.c1
            have g2 := x5.c2
            have g3 := x5.c3
            have g4 := x5.c4
            have g5 := x5.c5
            have g6 := x5.c6
            have f0 := x5.fz 0
            have f1 := x5.fz 1
            have f2 := x5.fz 2
            have f3 := x5.fz 3
            have f4 := x5.fz 4
            have f5 := x5.fz 5
            have f6 := x5.fz 6
            refine wpAnyH_ready (rs := [7]) (by kernel_rfl) (by simp) ?_
            refine AllReadyH.cons rfl (fun K hK => ?_) AllReadyH.nil
            go_simp
            obtain ⟨v6, e6, x6, h6, b6⟩ := set7 x5 a2 oA cA
            rw [e6]
            rw [e6] at FZ
            have D6 : Hid (Below w3.heap.size w3 v6) := D5.out.trans (b6 _ (by have := D3.out.size; exact this))
            have K6 : Hid (v6.cell? ⟨w.heap.size, 0, none⟩ = some (.slice a0 ns.length cap0) ∧ v6.cell? ⟨w2.heap.size, 0, none⟩ = some (.int .i64 a2.layout) ∧ v6.cell? ⟨w2.heap.size, 1, none⟩ = some (.int .i64 a2.offset) ∧ v6.cell? ⟨w2.heap.size, 2, none⟩ = some (.int .i64 a2.length) ∧ v6.cell? ⟨w2.heap.size, 3, none⟩ = some (.string a2.valid) ∧ v6.cell? ⟨w2.heap.size, 4, none⟩ = some (.string a2.ends) ∧ v6.cell? ⟨w2.heap.size, 5, none⟩ = some (.string a2.data) ∧ v6.cell? ⟨w2.heap.size, 6, none⟩ = some (.slice oq2 a2.kids.length cq2)) := KLA.out _ D6.out
            refine hK.out _ _ K6.out (fun h7 => ?_)
            clear hK K
            try simp only [Act.put, List.setIfInBounds_toArray, List.set_cons_zero, List.set_cons_succ]
            refine wpAnyH_done (by kernel_rfl) ?_ _
            refine NoPanic.normal ?_
            go_wp2_with fail
            go_meet
            case rel => exact FZ.out
        · go_simp
          obtain ⟨v3, e2, x8, b2, s2⟩ := box7 v2 nil none 0
          rw [show v2.alloc (.cells #[.int .i64 0, .int .i64 0, .int .i64 0, .string ⟨#[]⟩, .string ⟨#[]⟩, .string ⟨#[]⟩, .slice none 0 0] 27) = v3 from e2]
          have D3 : Hid (Below w3.heap.size w3 v3) := bel2 D2.out b2
          have K3 : Hid (v3.cell? ⟨w.heap.size, 0, none⟩ = some (.slice a0 ns.length cap0) ∧ v3.cell? ⟨w2.heap.size, 0, none⟩ = some (.int .i64 a2.layout) ∧ v3.cell? ⟨w2.heap.size, 1, none⟩ = some (.int .i64 a2.offset) ∧ v3.cell? ⟨w2.heap.size, 2, none⟩ = some (.int .i64 a2.length) ∧ v3.cell? ⟨w2.heap.size, 3, none⟩ = some (.string a2.valid) ∧ v3.cell? ⟨w2.heap.size, 4, none⟩ = some (.string a2.ends) ∧ v3.cell? ⟨w2.heap.size, 5, none⟩ = some (.string a2.data) ∧ v3.cell? ⟨w2.heap.size, 6, none⟩ = some (.slice oq2 a2.kids.length cq2)) := KLA.out _ D3.out
          refine hK.out _ _ K3.out (fun h3 => ?_)
          clear hK K h2
          try simp only [Act.put, List.setIfInBounds_toArray, List.set_cons_zero, List.set_cons_succ]
          refine wpAnyH_ready (rs := [4]) (by kernel_rfl) (by simp) ?_
          refine AllReadyH.cons rfl (fun K hK => ?_) AllReadyH.nil
          · go_simp
            obtain ⟨v4, e3, s3, c3, b3⟩ := boxed v3 (.slice none 0 0) 24
            rw [e3]
            have q7 : v4.heap[v3.heap.size]? = some (.cells #[.slice none 0 0] 24) := by rw [← e3]; exact heap_alloc_new _ _
            have D4 : Hid (Below w3.heap.size w3 v4) := bel2 D3.out b3
            have K4 : Hid (v4.cell? ⟨w.heap.size, 0, none⟩ = some (.slice a0 ns.length cap0) ∧ v4.cell? ⟨w2.heap.size, 0, none⟩ = some (.int .i64 a2.layout) ∧ v4.cell? ⟨w2.heap.size, 1, none⟩ = some (.int .i64 a2.offset) ∧ v4.cell? ⟨w2.heap.size, 2, none⟩ = some (.int .i64 a2.length) ∧ v4.cell? ⟨w2.heap.size, 3, none⟩ = some (.string a2.valid) ∧ v4.cell? ⟨w2.heap.size, 4, none⟩ = some (.string a2.ends) ∧ v4.cell? ⟨w2.heap.size, 5, none⟩ = some (.string a2.data) ∧ v4.cell? ⟨w2.heap.size, 6, none⟩ = some (.slice oq2 a2.kids.length cq2)) := KLA.out _ D4.out
            refine hK.out _ _ K4.out (fun h4 => ?_)
            clear hK K h3
            try simp only [Act.put, List.setIfInBounds_toArray, List.set_cons_zero, List.set_cons_succ]
            have F7 := blk_later q7 (Below.refl _ _)
            have F8 := x8.later b3
            have FU := ownsRow_grown hU (bel2 b1 (bel2 b2 b3))
            have FA : HoldsO 140737488351232 v4 (fq2 + 1) (fun b => b ≠ v3.heap.size ∧ b ≠ v2.heap.size) (a2.cells oA cA) a2 := hA.lt.stays (fun b hb => Below.block (show Below v2.heap.size v2 v4 from (bel2 b2 b3)) b hb.2) (fun b hb => by have h1 := hb.1; have h2 := hb.2; constructor <;> omega)
            have FN : ∀ g, (Value.slice oU ns.length cU).ownBlock = some g → g ≠ v3.heap.size ∧ g ≠ v2.heap.size := fun g hg => by have h1 := (hU.lt g hg).1; have h2 := (hU.lt g hg).2; constructor <;> omega
            have FZ : Hid (Start w3 ns a2 fq2 (.pointer (some ⟨v3.heap.size, 0, none⟩)) (.pointer (some ⟨v2.heap.size, 0, none⟩)) ((((((((v4.setCell ⟨v3.heap.size, 0, none⟩ (.slice oU ns.length cU)).setCell ⟨v2.heap.size, 0, none⟩ (.int .i64 a2.layout)).setCell ⟨v2.heap.size, 1, none⟩ (.int .i64 a2.offset)).setCell ⟨v2.heap.size, 2, none⟩ (.int .i64 a2.length)).setCell ⟨v2.heap.size, 3, none⟩ (.string a2.valid)).setCell ⟨v2.heap.size, 4, none⟩ (.string a2.ends)).setCell ⟨v2.heap.size, 5, none⟩ (.string a2.data)).setCell ⟨v2.heap.size, 6, none⟩ (.slice oA a2.kids.length cA))) := startAll F7 F8 (by omega) (by have := D3.out.size; omega) (by have := D2.out.size; omega) FU FN FA D4.out
            have m7 : v4.cell? ⟨v3.heap.size, 0, none⟩ = some (.slice none 0 0) := by simp [World.cell?, F7]
            have z7 : v4.frozen? ⟨v3.heap.size, 0, none⟩ = false := by simp [World.frozen?, F7]
            have N8 : v2.heap.size ≠ v3.heap.size := by omega
            have D5 : Hid (Below w3.heap.size w3 (v4.setCell ⟨v3.heap.size, 0, none⟩ (.slice oU ns.length cU))) := D4.out.setCell (by have := D3.out.size; exact this) _
            have x5 : Bx (v4.setCell ⟨v3.heap.size, 0, none⟩ (.slice oU ns.length cU)) v2.heap.size nil none 0 := ⟨(Below.heap_setCell _ _ _ _ N8).trans F8.blk⟩
            clear F7 F8 FU FA FN hU hA q7 x8
            refine wpAnyH_ready (rs := [6]) (by kernel_rfl) (by simp) ?_
            refine AllReadyH.cons rfl (fun K hK => ?_) AllReadyH.nil
            go_simp
            generalize v4.setCell ⟨v3.heap.size, 0, none⟩ (.slice oU ns.length cU) = v5 at *
            have K5 : Hid (v5.cell? ⟨w.heap.size, 0, none⟩ = some (.slice a0 ns.length cap0) ∧ v5.cell? ⟨w2.heap.size, 0, none⟩ = some (.int .i64 a2.layout) ∧ v5.cell? ⟨w2.heap.size, 1, none⟩ = some (.int .i64 a2.offset) ∧ v5.cell? ⟨w2.heap.size, 2, none⟩ = some (.int .i64 a2.length) ∧ v5.cell? ⟨w2.heap.size, 3, none⟩ = some (.string a2.valid) ∧ v5.cell? ⟨w2.heap.size, 4, none⟩ = some (.string a2.ends) ∧ v5.cell? ⟨w2.heap.size, 5, none⟩ = some (.string a2.data) ∧ v5.cell? ⟨w2.heap.size, 6, none⟩ = some (.slice oq2 a2.kids.length cq2)) := KLA.out _ D5.out
            refine hK.out _ _ K5.out (fun h5 => ?_)
            clear hK K h4 m7 z7
            try simp only [Act.put, List.setIfInBounds_toArray, List.set_cons_zero, List.set_cons_succ]
            have g0 := x5.c0
            have g1 := x5.c1
            have g2 := x5.c2
            have g3 := x5.c3
            have g4 := x5.c4
            have g5 := x5.c5
            have g6 := x5.c6
            have f0 := x5.fz 0
            have f1 := x5.fz 1
            have f2 := x5.fz 2
            have f3 := x5.fz 3
            have f4 := x5.fz 4
            have f5 := x5.fz 5
            have f6 := x5.fz 6
            refine wpAnyH_ready (rs := [7]) (by kernel_rfl) (by simp) ?_
            refine AllReadyH.cons rfl (fun K hK => ?_) AllReadyH.nil
            go_simp
            obtain ⟨v6, e6, x6, h6, b6⟩ := set7 x5 a2 oA cA
            rw [e6]
            rw [e6] at FZ
            have D6 : Hid (Below w3.heap.size w3 v6) := D5.out.trans (b6 _ (by have := D2.out.size; exact this))
            have K6 : Hid (v6.cell? ⟨w.heap.size, 0, none⟩ = some (.slice a0 ns.length cap0) ∧ v6.cell? ⟨w2.heap.size, 0, none⟩ = some (.int .i64 a2.layout) ∧ v6.cell? ⟨w2.heap.size, 1, none⟩ = some (.int .i64 a2.offset) ∧ v6.cell? ⟨w2.heap.size, 2, none⟩ = some (.int .i64 a2.length) ∧ v6.cell? ⟨w2.heap.size, 3, none⟩ = some (.string a2.valid) ∧ v6.cell? ⟨w2.heap.size, 4, none⟩ = some (.string a2.ends) ∧ v6.cell? ⟨w2.heap.size, 5, none⟩ = some (.string a2.data) ∧ v6.cell? ⟨w2.heap.size, 6, none⟩ = some (.slice oq2 a2.kids.length cq2)) := KLA.out _ D6.out
            refine hK.out _ _ K6.out (fun h7 => ?_)
            clear hK K
            try simp only [Act.put, List.setIfInBounds_toArray, List.set_cons_zero, List.set_cons_succ]
            refine wpAnyH_done (by kernel_rfl) ?_ _
            refine NoPanic.normal ?_
            go_wp2_with fail
            go_meet
            case rel => exact FZ.out
      · go_simp
        obtain ⟨v2, e1, s1, c1, b1⟩ := boxed v1 (.slice none 0 0) 24
        rw [e1]
        have q7 : v2.heap[v1.heap.size]? = some (.cells #[.slice none 0 0] 24) := by rw [← e1]; exact heap_alloc_new _ _
        have D2 : Hid (Below w3.heap.size w3 v2) := bel2 D1.out b1
        have K2 : Hid (v2.cell? ⟨w.heap.size, 0, none⟩ = some (.slice a0 ns.length cap0) ∧ v2.cell? ⟨w2.heap.size, 0, none⟩ = some (.int .i64 a2.layout) ∧ v2.cell? ⟨w2.heap.size, 1, none⟩ = some (.int .i64 a2.offset) ∧ v2.cell? ⟨w2.heap.size, 2, none⟩ = some (.int .i64 a2.length) ∧ v2.cell? ⟨w2.heap.size, 3, none⟩ = some (.string a2.valid) ∧ v2.cell? ⟨w2.heap.size, 4, none⟩ = some (.string a2.ends) ∧ v2.cell? ⟨w2.heap.size, 5, none⟩ = some (.string a2.data) ∧ v2.cell? ⟨w2.heap.size, 6, none⟩ = some (.slice oq2 a2.kids.length cq2)) := KLA.out _ D2.out
        refine hK.out _ _ K2.out (fun h2 => ?_)
        clear hK K h1
        try simp only [Act.put, List.setIfInBounds_toArray, List.set_cons_zero, List.set_cons_succ]
        refine wpAnyH_ready (rs := [3, 5]) (by kernel_rfl) (by simp) ?_
        refine AllReadyH.cons rfl (fun K hK => ?_) (AllReadyH.cons rfl (fun K hK => ?_) AllReadyH.nil)
        · go_simp
          go_at_call 8
          refine (HCA.out v2 D2.out).mono ?_
          rintro e v3 ⟨oA, cA, rfl, hA, b2⟩
          have s2 := b2.size
          have D3 : Hid (Below w3.heap.size w3 v3) := bel2 D2.out b2
          have K3 : Hid (v3.cell? ⟨w.heap.size, 0, none⟩ = some (.slice a0 ns.length cap0) ∧ v3.cell? ⟨w2.heap.size, 0, none⟩ = some (.int .i64 a2.layout) ∧ v3.cell? ⟨w2.heap.size, 1, none⟩ = some (.int .i64 a2.offset) ∧ v3.cell? ⟨w2.heap.size, 2, none⟩ = some (.int .i64 a2.length) ∧ v3.cell? ⟨w2.heap.size, 3, none⟩ = some (.string a2.valid) ∧ v3.cell? ⟨w2.heap.size, 4, none⟩ = some (.string a2.ends) ∧ v3.cell? ⟨w2.heap.size, 5, none⟩ = some (.string a2.data) ∧ v3.cell? ⟨w2.heap.size, 6, none⟩ = some (.slice oq2 a2.kids.length cq2)) := KLA.out _ D3.out
          refine hK.out _ _ K3.out (fun h3 => ?_)
          clear hK K h2
          try simp only [Act.put, List.setIfInBounds_toArray, List.set_cons_zero, List.set_cons_succ]
          refine wpAnyH_ready (rs := [5]) (by kernel_rfl) (by simp) ?_
          refine AllReadyH.cons rfl (fun K hK => ?_) AllReadyH.nil
          · go_simp
            obtain ⟨v4, e3, x8, b3, s3⟩ := box7 v3 nil none 0
            rw [show v3.alloc (.cells #[.int .i64 0, .int .i64 0, .int .i64 0, .string ⟨#[]⟩, .string ⟨#[]⟩, .string ⟨#[]⟩, .slice none 0 0] 27) = v4 from e3]
            have D4 : Hid (Below w3.heap.size w3 v4) := bel2 D3.out b3
            have K4 : Hid (v4.cell? ⟨w.heap.size, 0, none⟩ = some (.slice a0 ns.length cap0) ∧ v4.cell? ⟨w2.heap.size, 0, none⟩ = some (.int .i64 a2.layout) ∧ v4.cell? ⟨w2.heap.size, 1, none⟩ = some (.int .i64 a2.offset) ∧ v4.cell? ⟨w2.heap.size, 2, none⟩ = some (.int .i64 a2.length) ∧ v4.cell? ⟨w2.heap.size, 3, none⟩ = some (.string a2.valid) ∧ v4.cell? ⟨w2.heap.size, 4, none⟩ = some (.string a2.ends) ∧ v4.cell? ⟨w2.heap.size, 5, none⟩ = some (.string a2.data) ∧ v4.cell? ⟨w2.heap.size, 6, none⟩ = some (.slice oq2 a2.kids.length cq2)) := KLA.out _ D4.out
            refine hK.out _ _ K4.out (fun h4 => ?_)
            clear hK K h3
            try simp only [Act.put, List.setIfInBounds_toArray, List.set_cons_zero, List.set_cons_succ]
            have F7 := blk_later q7 (bel2 b2 b3)
            have F8 := x8.later (Below.refl _ _)
            have FU := ownsRow_grown hU (bel2 b1 (bel2 b2 b3))
            have FA : HoldsO 140737488351232 v4 (fq2 + 1) (fun b => b ≠ v1.heap.size ∧ b ≠ v3.heap.size) (a2.cells oA cA) a2 := hA.lt.stays (fun b hb => Below.block (show Below v3.heap.size v3 v4 from b3) b hb.2) (fun b hb => by have h1 := hb.1; have h2 := hb.2; constructor <;> omega)
            have FN : ∀ g, (Value.slice oU ns.length cU).ownBlock = some g → g ≠ v1.heap.size ∧ g ≠ v3.heap.size := fun g hg => by have h1 := (hU.lt g hg).1; have h2 := (hU.lt g hg).2; constructor <;> omega
            have FZ : Hid (Start w3 ns a2 fq2 (.pointer (some ⟨v1.heap.size, 0, none⟩)) (.pointer (some ⟨v3.heap.size, 0, none⟩)) ((((((((v4.setCell ⟨v1.heap.size, 0, none⟩ (.slice oU ns.length cU)).setCell ⟨v3.heap.size, 0, none⟩ (.int .i64 a2.layout)).setCell ⟨v3.heap.size, 1, none⟩ (.int .i64 a2.offset)).setCell ⟨v3.heap.size, 2, none⟩ (.int .i64 a2.length)).setCell ⟨v3.heap.size, 3, none⟩ (.string a2.valid)).setCell ⟨v3.heap.size, 4, none⟩ (.string a2.ends)).setCell ⟨v3.heap.size, 5, none⟩ (.string a2.data)).setCell ⟨v3.heap.size, 6, none⟩ (.slice oA a2.kids.length cA))) := startAll F7 F8 (by omega) (by have := D1.out.size; omega) (by have := D3.out.size; omega) FU FN FA D4.out
            have m7 : v4.cell? ⟨v1.heap.size, 0, none⟩ = some (.slice none 0 0) := by simp [World.cell?, F7]
            have z7 : v4.frozen? ⟨v1.heap.size, 0, none⟩ = false := by simp [World.frozen?, F7]
            have N8 : v3.heap.size ≠ v1.heap.size := by omega
            have D5 : Hid (Below w3.heap.size w3 (v4.setCell ⟨v1.heap.size, 0, none⟩ (.slice oU ns.length cU))) := D4.out.setCell (by have := D1.out.size; exact this) _
            have x5 : Bx (v4.setCell ⟨v1.heap.size, 0, none⟩ (.slice oU ns.length cU)) v3.heap.size nil none 0 := ⟨(Below.heap_setCell _ _ _ _ N8).trans F8.blk⟩
            clear F7 F8 FU FA FN hU hA q7 x8
            refine wpAnyH_ready (rs := [6]) (by kernel_rfl) (by simp) ?_
            refine AllReadyH.cons rfl (fun K hK => ?_) AllReadyH.nil
            go_simp
            generalize v4.setCell ⟨v1.heap.size, 0, none⟩ (.slice oU ns.length cU) = v5 at *
            have K5 : Hid (v5.cell? ⟨w.heap.size, 0, none⟩ = some (.slice a0 ns.length cap0) ∧ v5.cell? ⟨w2.heap.size, 0, none⟩ = some (.int .i64 a2.layout) ∧ v5.cell? ⟨w2.heap.size, 1, none⟩ = some (.int .i64 a2.offset) ∧ v5.cell? ⟨w2.heap.size, 2, none⟩ = some (.int .i64 a2.length) ∧ v5.cell? ⟨w2.heap.size, 3, none⟩ = some (.string a2.valid) ∧ v5.cell? ⟨w2.heap.size, 4, none⟩ = some (.string a2.ends) ∧ v5.cell? ⟨w2.heap.size, 5, none⟩ = some (.string a2.data) ∧ v5.cell? ⟨w2.heap.size, 6, none⟩ = some (.slice oq2 a2.kids.length cq2)) := KLA.out _ D5.out
            refine hK.out _ _ K5.out (fun h5 => ?_)
            clear hK K h4 m7 z7
            try simp only [Act.put, List.setIfInBounds_toArray, List.set_cons_zero, List.set_cons_succ]
            have g0 := x5.c0
            have g1 := x5.c1
            have g2 := x5.c2
            have g3 := x5.c3
            have g4 := x5.c4
            have g5 := x5.c5
            have g6 := x5.c6
            have f0 := x5.fz 0
            have f1 := x5.fz 1
            have f2 := x5.fz 2
            have f3 := x5.fz 3
            have f4 := x5.fz 4
            have f5 := x5.fz 5
            have f6 := x5.fz 6
            refine wpAnyH_ready (rs := [7]) (by kernel_rfl) (by simp) ?_
            refine AllReadyH.cons rfl (fun K hK => ?_) AllReadyH.nil
            go_simp
            obtain ⟨v6, e6, x6, h6, b6⟩ := set7 x5 a2 oA cA
            rw [e6]
            rw [e6] at FZ
            have D6 : Hid (Below w3.heap.size w3 v6) := D5.out.trans (b6 _ (by have := D3.out.size; exact this))
            have K6 : Hid (v6.cell? ⟨w.heap.size, 0, none⟩ = some (.slice a0 ns.length cap0) ∧ v6.cell? ⟨w2.heap.size, 0, none⟩ = some (.int .i64 a2.layout) ∧ v6.cell? ⟨w2.heap.size, 1, none⟩ = some (.int .i64 a2.offset) ∧ v6.cell? ⟨w2.heap.size, 2, none⟩ = some (.int .i64 a2.length) ∧ v6.cell? ⟨w2.heap.size, 3, none⟩ = some (.string a2.valid) ∧ v6.cell? ⟨w2.heap.size, 4, none⟩ = some (.string a2.ends) ∧ v6.cell? ⟨w2.heap.size, 5, none⟩ = some (.string a2.data) ∧ v6.cell? ⟨w2.heap.size, 6, none⟩ = some (.slice oq2 a2.kids.length cq2)) := KLA.out _ D6.out
            refine hK.out _ _ K6.out (fun h7 => ?_)
            clear hK K
            try simp only [Act.put, List.setIfInBounds_toArray, List.set_cons_zero, List.set_cons_succ]
            refine wpAnyH_done (by kernel_rfl) ?_ _
            refine NoPanic.normal ?_
            go_wp2_with fail
            go_meet
            case rel => exact FZ.out
        · go_simp
          obtain ⟨v3, e2, x8, b2, s2⟩ := box7 v2 nil none 0
          rw [show v2.alloc (.cells #[.int .i64 0, .int .i64 0, .int .i64 0, .string ⟨#[]⟩, .string ⟨#[]⟩, .string ⟨#[]⟩, .slice none 0 0] 27) = v3 from e2]
          have D3 : Hid (Below w3.heap.size w3 v3) := bel2 D2.out b2
          have K3 : Hid (v3.cell? ⟨w.heap.size, 0, none⟩ = some (.slice a0 ns.length cap0) ∧ v3.cell? ⟨w2.heap.size, 0, none⟩ = some (.int .i64 a2.layout) ∧ v3.cell? ⟨w2.heap.size, 1, none⟩ = some (.int .i64 a2.offset) ∧ v3.cell? ⟨w2.heap.size, 2, none⟩ = some (.int .i64 a2.length) ∧ v3.cell? ⟨w2.heap.size, 3, none⟩ = some (.string a2.valid) ∧ v3.cell? ⟨w2.heap.size, 4, none⟩ = some (.string a2.ends) ∧ v3.cell? ⟨w2.heap.size, 5, none⟩ = some (.string a2.data) ∧ v3.cell? ⟨w2.heap.size, 6, none⟩ = some (.slice oq2 a2.kids.length cq2)) := KLA.out _ D3.out
          refine hK.out _ _ K3.out (fun h3 => ?_)
          clear hK K h2
          try simp only [Act.put, List.setIfInBounds_toArray, List.set_cons_zero, List.set_cons_succ]
          refine wpAnyH_ready (rs := [3]) (by kernel_rfl) (by simp) ?_
          refine AllReadyH.cons rfl (fun K hK => ?_) AllReadyH.nil
          · go_simp
            go_at_call 8
            refine (HCA.out v3 D3.out).mono ?_
            rintro e v4 ⟨oA, cA, rfl, hA, b3⟩
            have s3 := b3.size
            have D4 : Hid (Below w3.heap.size w3 v4) := bel2 D3.out b3
            have K4 : Hid (v4.cell? ⟨w.heap.size, 0, none⟩ = some (.slice a0 ns.length cap0) ∧ v4.cell? ⟨w2.heap.size, 0, none⟩ = some (.int .i64 a2.layout) ∧ v4.cell? ⟨w2.heap.size, 1, none⟩ = some (.int .i64 a2.offset) ∧ v4.cell? ⟨w2.heap.size, 2, none⟩ = some (.int .i64 a2.length) ∧ v4.cell? ⟨w2.heap.size, 3, none⟩ = some (.string a2.valid) ∧ v4.cell? ⟨w2.heap.size, 4, none⟩ = some (.string a2.ends) ∧ v4.cell? ⟨w2.heap.size, 5, none⟩ = some (.string a2.data) ∧ v4.cell? ⟨w2.heap.size, 6, none⟩ = some (.slice oq2 a2.kids.length cq2)) := KLA.out _ D4.out
            refine hK.out _ _ K4.out (fun h4 => ?_)
            clear hK K h3
            try simp only [Act.put, List.setIfInBounds_toArray, List.set_cons_zero, List.set_cons_succ]
            have F7 := blk_later q7 (bel2 b2 b3)
            have F8 := x8.later b3
            have FU := ownsRow_grown hU (bel2 b1 (bel2 b2 b3))
            have FA : HoldsO 140737488351232 v4 (fq2 + 1) (fun b => b ≠ v1.heap.size ∧ b ≠ v2.heap.size) (a2.cells oA cA) a2 := hA.lt.stays (fun b hb => Below.block (show Below v4.heap.size v4 v4 from (Below.refl _ _)) b hb.2) (fun b hb => by have h1 := hb.1; have h2 := hb.2; constructor <;> omega)
            have FN : ∀ g, (Value.slice oU ns.length cU).ownBlock = some g → g ≠ v1.heap.size ∧ g ≠ v2.heap.size := fun g hg => by have h1 := (hU.lt g hg).1; have h2 := (hU.lt g hg).2; constructor <;> omega
            have FZ : Hid (Start w3 ns a2 fq2 (.pointer (some ⟨v1.heap.size, 0, none⟩)) (.pointer (some ⟨v2.heap.size, 0, none⟩)) ((((((((v4.setCell ⟨v1.heap.size, 0, none⟩ (.slice oU ns.length cU)).setCell ⟨v2.heap.size, 0, none⟩ (.int .i64 a2.layout)).setCell ⟨v2.heap.size, 1, none⟩ (.int .i64 a2.offset)).setCell ⟨v2.heap.size, 2, none⟩ (.int .i64 a2.length)).setCell ⟨v2.heap.size, 3, none⟩ (.string a2.valid)).setCell ⟨v2.heap.size, 4, none⟩ (.string a2.ends)).setCell ⟨v2.heap.size, 5, none⟩ (.string a2.data)).setCell ⟨v2.heap.size, 6, none⟩ (.slice oA a2.kids.length cA))) := startAll F7 F8 (by omega) (by have := D1.out.size; omega) (by have := D2.out.size; omega) FU FN FA D4.out
            have m7 : v4.cell? ⟨v1.heap.size, 0, none⟩ = some (.slice none 0 0) := by simp [World.cell?, F7]
            have z7 : v4.frozen? ⟨v1.heap.size, 0, none⟩ = false := by simp [World.frozen?, F7]
            have N8 : v2.heap.size ≠ v1.heap.size := by omega
            have D5 : Hid (Below w3.heap.size w3 (v4.setCell ⟨v1.heap.size, 0, none⟩ (.slice oU ns.length cU))) := D4.out.setCell (by have := D1.out.size; exact this) _
            have x5 : Bx (v4.setCell ⟨v1.heap.size, 0, none⟩ (.slice oU ns.length cU)) v2.heap.size nil none 0 := ⟨(Below.heap_setCell _ _ _ _ N8).trans F8.blk⟩
            clear F7 F8 FU FA FN hU hA q7 x8
            refine wpAnyH_ready (rs := [6]) (by kernel_rfl) (by simp) ?_
            refine AllReadyH.cons rfl (fun K hK => ?_) AllReadyH.nil
            go_simp
            generalize v4.setCell ⟨v1.heap.size, 0, none⟩ (.slice oU ns.length cU) = v5 at *
            have K5 : Hid (v5.cell? ⟨w.heap.size, 0, none⟩ = some (.slice a0 ns.length cap0) ∧ v5.cell? ⟨w2.heap.size, 0, none⟩ = some (.int .i64 a2.layout) ∧ v5.cell? ⟨w2.heap.size, 1, none⟩ = some (.int .i64 a2.offset) ∧ v5.cell? ⟨w2.heap.size, 2, none⟩ = some (.int .i64 a2.length) ∧ v5.cell? ⟨w2.heap.size, 3, none⟩ = some (.string a2.valid) ∧ v5.cell? ⟨w2.heap.size, 4, none⟩ = some (.string a2.ends) ∧ v5.cell? ⟨w2.heap.size, 5, none⟩ = some (.string a2.data) ∧ v5.cell? ⟨w2.heap.size, 6, none⟩ = some (.slice oq2 a2.kids.length cq2)) := KLA.out _ D5.out
            refine hK.out _ _ K5.out (fun h5 => ?_)
            clear hK K h4 m7 z7
            try simp only [Act.put, List.setIfInBounds_toArray, List.set_cons_zero, List.set_cons_succ]
            have g0 := x5.c0
            have g1 := x5.c1
            have g2 := x5.c2
            have g3 := x5.c3
            have g4 := x5.c4
            have g5 := x5.c5
            have g6 := x5.c6
            have f0 := x5.fz 0
            have f1 := x5.fz 1
            have f2 := x5.fz 2
            have f3 := x5.fz 3
            have f4 := x5.fz 4
            have f5 := x5.fz 5
            have f6 := x5.fz 6
            refine wpAnyH_ready (rs := [7]) (by kernel_rfl) (by simp) ?_
            refine AllReadyH.cons rfl (fun K hK => ?_) AllReadyH.nil
            go_simp
            obtain ⟨v6, e6, x6, h6, b6⟩ := set7 x5 a2 oA cA
            rw [e6]
            rw [e6] at FZ
            have D6 : Hid (Below w3.heap.size w3 v6) := D5.out.trans (b6 _ (by have := D2.out.size; exact this))
            have K6 : Hid (v6.cell? ⟨w.heap.size, 0, none⟩ = some (.slice a0 ns.length cap0) ∧ v6.cell? ⟨w2.heap.size, 0, none⟩ = some (.int .i64 a2.layout) ∧ v6.cell? ⟨w2.heap.size, 1, none⟩ = some (.int .i64 a2.offset) ∧ v6.cell? ⟨w2.heap.size, 2, none⟩ = some (.int .i64 a2.length) ∧ v6.cell? ⟨w2.heap.size, 3, none⟩ = some (.string a2.valid) ∧ v6.cell? ⟨w2.heap.size, 4, none⟩ = some (.string a2.ends) ∧ v6.cell? ⟨w2.heap.size, 5, none⟩ = some (.string a2.data) ∧ v6.cell? ⟨w2.heap.size, 6, none⟩ = some (.slice oq2 a2.kids.length cq2)) := KLA.out _ D6.out
            refine hK.out _ _ K6.out (fun h7 => ?_)
            clear hK K
            try simp only [Act.put, List.setIfInBounds_toArray, List.set_cons_zero, List.set_cons_succ]
            refine wpAnyH_done (by kernel_rfl) ?_ _
            refine NoPanic.normal ?_
            go_wp2_with fail
            go_meet
            case rel => exact FZ.out
      · go_simp
        obtain ⟨v2, e1, x8, b1, s1⟩ := box7 v1 nil none 0
        rw [show v1.alloc (.cells #[.int .i64 0, .int .i64 0, .int .i64 0, .string ⟨#[]⟩, .string ⟨#[]⟩, .string ⟨#[]⟩, .slice none 0 0] 27) = v2 from e1]
        have D2 : Hid (Below w3.heap.size w3 v2) := bel2 D1.out b1
        have K2 : Hid (v2.cell? ⟨w.heap.size, 0, none⟩ = some (.slice a0 ns.length cap0) ∧ v2.cell? ⟨w2.heap.size, 0, none⟩ = some (.int .i64 a2.layout) ∧ v2.cell? ⟨w2.heap.size, 1, none⟩ = some (.int .i64 a2.offset) ∧ v2.cell? ⟨w2.heap.size, 2, none⟩ = some (.int .i64 a2.length) ∧ v2.cell? ⟨w2.heap.size, 3, none⟩ = some (.string a2.valid) ∧ v2.cell? ⟨w2.heap.size, 4, none⟩ = some (.string a2.ends) ∧ v2.cell? ⟨w2.heap.size, 5, none⟩ = some (.string a2.data) ∧ v2.cell? ⟨w2.heap.size, 6, none⟩ = some (.slice oq2 a2.kids.length cq2)) := KLA.out _ D2.out
        refine hK.out _ _ K2.out (fun h2 => ?_)
        clear hK K h1
        try simp only [Act.put, List.setIfInBounds_toArray, List.set_cons_zero, List.set_cons_succ]
        refine wpAnyH_ready (rs := [3, 4]) (by kernel_rfl) (by simp) ?_
        refine AllReadyH.cons rfl (fun K hK => ?_) (AllReadyH.cons rfl (fun K hK => ?_) AllReadyH.nil)
        · go_simp
          go_at_call 8
          refine (HCA.out v2 D2.out).mono ?_
          rintro e v3 ⟨oA, cA, rfl, hA, b2⟩
          have s2 := b2.size
          have D3 : Hid (Below w3.heap.size w3 v3) := bel2 D2.out b2
          have K3 : Hid (v3.cell? ⟨w.heap.size, 0, none⟩ = some (.slice a0 ns.length cap0) ∧ v3.cell? ⟨w2.heap.size, 0, none⟩ = some (.int .i64 a2.layout) ∧ v3.cell? ⟨w2.heap.size, 1, none⟩ = some (.int .i64 a2.offset) ∧ v3.cell? ⟨w2.heap.size, 2, none⟩ = some (.int .i64 a2.length) ∧ v3.cell? ⟨w2.heap.size, 3, none⟩ = some (.string a2.valid) ∧ v3.cell? ⟨w2.heap.size, 4, none⟩ = some (.string a2.ends) ∧ v3.cell? ⟨w2.heap.size, 5, none⟩ = some (.string a2.data) ∧ v3.cell? ⟨w2.heap.size, 6, none⟩ = some (.slice oq2 a2.kids.length cq2)) := KLA.out _ D3.out
          refine hK.out _ _ K3.out (fun h3 => ?_)
          clear hK K h2
          try simp only [Act.put, List.setIfInBounds_toArray, List.set_cons_zero, List.set_cons_succ]
          refine wpAnyH_ready (rs := [4]) (by kernel_rfl) (by simp) ?_
          refine AllReadyH.cons rfl (fun K hK => ?_) AllReadyH.nil
          · go_simp
            obtain ⟨v4, e3, s3, c3, b3⟩ := boxed v3 (.slice none 0 0) 24
            rw [e3]
            have q7 : v4.heap[v3.heap.size]? = some (.cells #[.slice none 0 0] 24) := by rw [← e3]; exact heap_alloc_new _ _
            have D4 : Hid (Below w3.heap.size w3 v4) := bel2 D3.out b3
            have K4 : Hid (v4.cell? ⟨w.heap.size, 0, none⟩ = some (.slice a0 ns.length cap0) ∧ v4.cell? ⟨w2.heap.size, 0, none⟩ = some (.int .i64 a2.layout) ∧ v4.cell? ⟨w2.heap.size, 1, none⟩ = some (.int .i64 a2.offset) ∧ v4.cell? ⟨w2.heap.size, 2, none⟩ = some (.int .i64 a2.length) ∧ v4.cell? ⟨w2.heap.size, 3, none⟩ = some (.string a2.valid) ∧ v4.cell? ⟨w2.heap.size, 4, none⟩ = some (.string a2.ends) ∧ v4.cell? ⟨w2.heap.size, 5, none⟩ = some (.string a2.data) ∧ v4.cell? ⟨w2.heap.size, 6, none⟩ = some (.slice oq2 a2.kids.length cq2)) := KLA.out _ D4.out
            refine hK.out _ _ K4.out (fun h4 => ?_)
            clear hK K h3
            try simp only [Act.put, List.setIfInBounds_toArray, List.set_cons_zero, List.set_cons_succ]
            have F7 := blk_later q7 (Below.refl _ _)
            have F8 := x8.later (bel2 b2 b3)
            have FU := ownsRow_grown hU (bel2 b1 (bel2 b2 b3))
            have FA : HoldsO 140737488351232 v4 (fq2 + 1) (fun b => b ≠ v3.heap.size ∧ b ≠ v1.heap.size) (a2.cells oA cA) a2 := hA.lt.stays (fun b hb => Below.block (show Below v3.heap.size v3 v4 from b3) b hb.2) (fun b hb => by have h1 := hb.1; have h2 := hb.2; constructor <;> omega)
            have FN : ∀ g, (Value.slice oU ns.length cU).ownBlock = some g → g ≠ v3.heap.size ∧ g ≠ v1.heap.size := fun g hg => by have h1 := (hU.lt g hg).1; have h2 := (hU.lt g hg).2; constructor <;> omega
            have FZ : Hid (Start w3 ns a2 fq2 (.pointer (some ⟨v3.heap.size, 0, none⟩)) (.pointer (some ⟨v1.heap.size, 0, none⟩)) ((((((((v4.setCell ⟨v3.heap.size, 0, none⟩ (.slice oU ns.length cU)).setCell ⟨v1.heap.size, 0, none⟩ (.int .i64 a2.layout)).setCell ⟨v1.heap.size, 1, none⟩ (.int .i64 a2.offset)).setCell ⟨v1.heap.size, 2, none⟩ (.int .i64 a2.length)).setCell ⟨v1.heap.size, 3, none⟩ (.string a2.valid)).setCell ⟨v1.heap.size, 4, none⟩ (.string a2.ends)).setCell ⟨v1.heap.size, 5, none⟩ (.string a2.data)).setCell ⟨v1.heap.size, 6, none⟩ (.slice oA a2.kids.length cA))) := startAll F7 F8 (by omega) (by have := D3.out.size; omega) (by have := D1.out.size; omega) FU FN FA D4.out
            have m7 : v4.cell? ⟨v3.heap.size, 0, none⟩ = some (.slice none 0 0) := by simp [World.cell?, F7]
            have z7 : v4.frozen? ⟨v3.heap.size, 0, none⟩ = false := by simp [World.frozen?, F7]
            have N8 : v1.heap.size ≠ v3.heap.size := by omega
            have D5 : Hid (Below w3.heap.size w3 (v4.setCell ⟨v3.heap.size, 0, none⟩ (.slice oU ns.length cU))) := D4.out.setCell (by have := D3.out.size; exact this) _
            have x5 : Bx (v4.setCell ⟨v3.heap.size, 0, none⟩ (.slice oU ns.length cU)) v1.heap.size nil none 0 := ⟨(Below.heap_setCell _ _ _ _ N8).trans F8.blk⟩
            clear F7 F8 FU FA FN hU hA q7 x8
            refine wpAnyH_ready (rs := [6]) (by kernel_rfl) (by simp) ?_
            refine AllReadyH.cons rfl (fun K hK => ?_) AllReadyH.nil
            go_simp
            generalize v4.setCell ⟨v3.heap.size, 0, none⟩ (.slice oU ns.length cU) = v5 at *
            have K5 : Hid (v5.cell? ⟨w.heap.size, 0, none⟩ = some (.slice a0 ns.length cap0) ∧ v5.cell? ⟨w2.heap.size, 0, none⟩ = some (.int .i64 a2.layout) ∧ v5.cell? ⟨w2.heap.size, 1, none⟩ = some (.int .i64 a2.offset) ∧ v5.cell? ⟨w2.heap.size, 2, none⟩ = some (.int .i64 a2.length) ∧ v5.cell? ⟨w2.heap.size, 3, none⟩ = some (.string a2.valid) ∧ v5.cell? ⟨w2.heap.size, 4, none⟩ = some (.string a2.ends) ∧ v5.cell? ⟨w2.heap.size, 5, none⟩ = some (.string a2.data) ∧ v5.cell? ⟨w2.heap.size, 6, none⟩ = some (.slice oq2 a2.kids.length cq2)) := KLA.out _ D5.out
            refine hK.out _ _ K5.out (fun h5 => ?_)
            clear hK K h4 m7 z7
            try simp only [Act.put, List.setIfInBounds_toArray, List.set_cons_zero, List.set_cons_succ]
            have g0 := x5.c0
            have g1 := x5.c1
            have g2 := x5.c2
            have g3 := x5.c3
            have g4 := x5.c4
            have g5 := x5.c5
            have g6 := x5.c6
            have f0 := x5.fz 0
            have f1 := x5.fz 1
            have f2 := x5.fz 2
            have f3 := x5.fz 3
            have f4 := x5.fz 4
            have f5 := x5.fz 5
            have f6 := x5.fz 6
            refine wpAnyH_ready (rs := [7]) (by kernel_rfl) (by simp) ?_
            refine AllReadyH.cons rfl (fun K hK => ?_) AllReadyH.nil
            go_simp
            obtain ⟨v6, e6, x6, h6, b6⟩ := set7 x5 a2 oA cA
            rw [e6]
            rw [e6] at FZ
            have D6 : Hid (Below w3.heap.size w3 v6) := D5.out.trans (b6 _ (by have := D1.out.size; exact this))
            have K6 : Hid (v6.cell? ⟨w.heap.size, 0, none⟩ = some (.slice a0 ns.length cap0) ∧ v6.cell? ⟨w2.heap.size, 0, none⟩ = some (.int .i64 a2.layout) ∧ v6.cell? ⟨w2.heap.size, 1, none⟩ = some (.int .i64 a2.offset) ∧ v6.cell? ⟨w2.heap.size, 2, none⟩ = some (.int .i64 a2.length) ∧ v6.cell? ⟨w2.heap.size, 3, none⟩ = some (.string a2.valid) ∧ v6.cell? ⟨w2.heap.size, 4, none⟩ = some (.string a2.ends) ∧ v6.cell? ⟨w2.heap.size, 5, none⟩ = some (.string a2.data) ∧ v6.cell? ⟨w2.heap.size, 6, none⟩ = some (.slice oq2 a2.kids.length cq2)) := KLA.out _ D6.out
            refine hK.out _ _ K6.out (fun h7 => ?_)
            clear hK K
            try simp only [Act.put, List.setIfInBounds_toArray, List.set_cons_zero, List.set_cons_succ]
            refine wpAnyH_done (by kernel_rfl) ?_ _
            refine NoPanic.normal ?_
            go_wp2_with fail
            go_meet
            case rel => exact FZ.out
        · go_simp
          obtain ⟨v3, e2, s2, c2, b2⟩ := boxed v2 (.slice none 0 0) 24
          rw [e2]
          have q7 : v3.heap[v2.heap.size]? = some (.cells #[.slice none 0 0] 24) := by rw [← e2]; exact heap_alloc_new _ _
          have D3 : Hid (Below w3.heap.size w3 v3) := bel2 D2.out b2
          have K3 : Hid (v3.cell? ⟨w.heap.size, 0, none⟩ = some (.slice a0 ns.length cap0) ∧ v3.cell? ⟨w2.heap.size, 0, none⟩ = some (.int .i64 a2.layout) ∧ v3.cell? ⟨w2.heap.size, 1, none⟩ = some (.int .i64 a2.offset) ∧ v3.cell? ⟨w2.heap.size, 2, none⟩ = some (.int .i64 a2.length) ∧ v3.cell? ⟨w2.heap.size, 3, none⟩ = some (.string a2.valid) ∧ v3.cell? ⟨w2.heap.size, 4, none⟩ = some (.string a2.ends) ∧ v3.cell? ⟨w2.heap.size, 5, none⟩ = some (.string a2.data) ∧ v3.cell? ⟨w2.heap.size, 6, none⟩ = some (.slice oq2 a2.kids.length cq2)) := KLA.out _ D3.out
          refine hK.out _ _ K3.out (fun h3 => ?_)
          clear hK K h2
          try simp only [Act.put, List.setIfInBounds_toArray, List.set_cons_zero, List.set_cons_succ]
          refine wpAnyH_ready (rs := [3]) (by kernel_rfl) (by simp) ?_
          refine AllReadyH.cons rfl (fun K hK => ?_) AllReadyH.nil
          · go_simp
            go_at_call 8
            refine (HCA.out v3 D3.out).mono ?_
            rintro e v4 ⟨oA, cA, rfl, hA, b3⟩
            have s3 := b3.size
            have D4 : Hid (Below w3.heap.size w3 v4) := bel2 D3.out b3
            have K4 : Hid (v4.cell? ⟨w.heap.size, 0, none⟩ = some (.slice a0 ns.length cap0) ∧ v4.cell? ⟨w2.heap.size, 0, none⟩ = some (.int .i64 a2.layout) ∧ v4.cell? ⟨w2.heap.size, 1, none⟩ = some (.int .i64 a2.offset) ∧ v4.cell? ⟨w2.heap.size, 2, none⟩ = some (.int .i64 a2.length) ∧ v4.cell? ⟨w2.heap.size, 3, none⟩ = some (.string a2.valid) ∧ v4.cell? ⟨w2.heap.size, 4, none⟩ = some (.string a2.ends) ∧ v4.cell? ⟨w2.heap.size, 5, none⟩ = some (.string a2.data) ∧ v4.cell? ⟨w2.heap.size, 6, none⟩ = some (.slice oq2 a2.kids.length cq2)) := KLA.out _ D4.out
            refine hK.out _ _ K4.out (fun h4 => ?_)
            clear hK K h3
            try simp only [Act.put, List.setIfInBounds_toArray, List.set_cons_zero, List.set_cons_succ]
            have F7 := blk_later q7 b3
            have F8 := x8.later (bel2 b2 b3)
            have FU := ownsRow_grown hU (bel2 b1 (bel2 b2 b3))
            have FA : HoldsO 140737488351232 v4 (fq2 + 1) (fun b => b ≠ v2.heap.size ∧ b ≠ v1.heap.size) (a2.cells oA cA) a2 := hA.lt.stays (fun b hb => Below.block (show Below v4.heap.size v4 v4 from (Below.refl _ _)) b hb.2) (fun b hb => by have h1 := hb.1; have h2 := hb.2; constructor <;> omega)
            have FN : ∀ g, (Value.slice oU ns.length cU).ownBlock = some g → g ≠ v2.heap.size ∧ g ≠ v1.heap.size := fun g hg => by have h1 := (hU.lt g hg).1; have h2 := (hU.lt g hg).2; constructor <;> omega
            have FZ : Hid (Start w3 ns a2 fq2 (.pointer (some ⟨v2.heap.size, 0, none⟩)) (.pointer (some ⟨v1.heap.size, 0, none⟩)) ((((((((v4.setCell ⟨v2.heap.size, 0, none⟩ (.slice oU ns.length cU)).setCell ⟨v1.heap.size, 0, none⟩ (.int .i64 a2.layout)).setCell ⟨v1.heap.size, 1, none⟩ (.int .i64 a2.offset)).setCell ⟨v1.heap.size, 2, none⟩ (.int .i64 a2.length)).setCell ⟨v1.heap.size, 3, none⟩ (.string a2.valid)).setCell ⟨v1.heap.size, 4, none⟩ (.string a2.ends)).setCell ⟨v1.heap.size, 5, none⟩ (.string a2.data)).setCell ⟨v1.heap.size, 6, none⟩ (.slice oA a2.kids.length cA))) := startAll F7 F8 (by omega) (by have := D2.out.size; omega) (by have := D1.out.size; omega) FU FN FA D4.out
            have m7 : v4.cell? ⟨v2.heap.size, 0, none⟩ = some (.slice none 0 0) := by simp [World.cell?, F7]
            have z7 : v4.frozen? ⟨v2.heap.size, 0, none⟩ = false := by simp [World.frozen?, F7]
            have N8 : v1.heap.size ≠ v2.heap.size := by omega
            have D5 : Hid (Below w3.heap.size w3 (v4.setCell ⟨v2.heap.size, 0, none⟩ (.slice oU ns.length cU))) := D4.out.setCell (by have := D2.out.size; exact this) _
            have x5 : Bx (v4.setCell ⟨v2.heap.size, 0, none⟩ (.slice oU ns.length cU)) v1.heap.size nil none 0 := ⟨(Below.heap_setCell _ _ _ _ N8).trans F8.blk⟩
            clear F7 F8 FU FA FN hU hA q7 x8
            refine wpAnyH_ready (rs := [6]) (by kernel_rfl) (by simp) ?_
            refine AllReadyH.cons rfl (fun K hK => ?_) AllReadyH.nil
            go_simp
            generalize v4.setCell ⟨v2.heap.size, 0, none⟩ (.slice oU ns.length cU) = v5 at *
            have K5 : Hid (v5.cell? ⟨w.heap.size, 0, none⟩ = some (.slice a0 ns.length cap0) ∧ v5.cell? ⟨w2.heap.size, 0, none⟩ = some (.int .i64 a2.layout) ∧ v5.cell? ⟨w2.heap.size, 1, none⟩ = some (.int .i64 a2.offset) ∧ v5.cell? ⟨w2.heap.size, 2, none⟩ = some (.int .i64 a2.length) ∧ v5.cell? ⟨w2.heap.size, 3, none⟩ = some (.string a2.valid) ∧ v5.cell? ⟨w2.heap.size, 4, none⟩ = some (.string a2.ends) ∧ v5.cell? ⟨w2.heap.size, 5, none⟩ = some (.string a2.data) ∧ v5.cell? ⟨w2.heap.size, 6, none⟩ = some (.slice oq2 a2.kids.length cq2)) := KLA.out _ D5.out
            refine hK.out _ _ K5.out (fun h5 => ?_)
            clear hK K h4 m7 z7
            try simp only [Act.put, List.setIfInBounds_toArray, List.set_cons_zero, List.set_cons_succ]
            have g0 := x5.c0
            have g1 := x5.c1
            have g2 := x5.c2
            have g3 := x5.c3
            have g4 := x5.c4
            have g5 := x5.c5
            have g6 := x5.c6
            have f0 := x5.fz 0
            have f1 := x5.fz 1
            have f2 := x5.fz 2
            have f3 := x5.fz 3
            have f4 := x5.fz 4
            have f5 := x5.fz 5
            have f6 := x5.fz 6
            refine wpAnyH_ready (rs := [7]) (by kernel_rfl) (by simp) ?_
            refine AllReadyH.cons rfl (fun K hK => ?_) AllReadyH.nil
            go_simp
            obtain ⟨v6, e6, x6, h6, b6⟩ := set7 x5 a2 oA cA
            rw [e6]
            rw [e6] at FZ
            have D6 : Hid (Below w3.heap.size w3 v6) := D5.out.trans (b6 _ (by have := D1.out.size; exact this))
            have K6 : Hid (v6.cell? ⟨w.heap.size, 0, none⟩ = some (.slice a0 ns.length cap0) ∧ v6.cell? ⟨w2.heap.size, 0, none⟩ = some (.int .i64 a2.layout) ∧ v6.cell? ⟨w2.heap.size, 1, none⟩ = some (.int .i64 a2.offset) ∧ v6.cell? ⟨w2.heap.size, 2, none⟩ = some (.int .i64 a2.length) ∧ v6.cell? ⟨w2.heap.size, 3, none⟩ = some (.string a2.valid) ∧ v6.cell? ⟨w2.heap.size, 4, none⟩ = some (.string a2.ends) ∧ v6.cell? ⟨w2.heap.size, 5, none⟩ = some (.string a2.data) ∧ v6.cell? ⟨w2.heap.size, 6, none⟩ = some (.slice oq2 a2.kids.length cq2)) := KLA.out _ D6.out
            refine hK.out _ _ K6.out (fun h7 => ?_)
            clear hK K
            try simp only [Act.put, List.setIfInBounds_toArray, List.set_cons_zero, List.set_cons_succ]
            refine wpAnyH_done (by kernel_rfl) ?_ _
            refine NoPanic.normal ?_
            go_wp2_with fail
            go_meet
            case rel => exact FZ.out
    · go_simp
      obtain ⟨v1, e0, s0, c0, b0⟩ := boxed v0 (.slice none 0 0) 24
      rw [e0]
      have q7 : v1.heap[v0.heap.size]? = some (.cells #[.slice none 0 0] 24) := by rw [← e0]; exact heap_alloc_new _ _
      have D1 : Hid (Below w3.heap.size w3 v1) := bel2 D0.out b0
      have K1 : Hid (v1.cell? ⟨w.heap.size, 0, none⟩ = some (.slice a0 ns.length cap0) ∧ v1.cell? ⟨w2.heap.size, 0, none⟩ = some (.int .i64 a2.layout) ∧ v1.cell? ⟨w2.heap.size, 1, none⟩ = some (.int .i64 a2.offset) ∧ v1.cell? ⟨w2.heap.size, 2, none⟩ = some (.int .i64 a2.length) ∧ v1.cell? ⟨w2.heap.size, 3, none⟩ = some (.string a2.valid) ∧ v1.cell? ⟨w2.heap.size, 4, none⟩ = some (.string a2.ends) ∧ v1.cell? ⟨w2.heap.size, 5, none⟩ = some (.string a2.data) ∧ v1.cell? ⟨w2.heap.size, 6, none⟩ = some (.slice oq2 a2.kids.length cq2)) := KLA.out _ D1.out
      refine hK.out _ _ K1.out (fun h1 => ?_)
      clear hK K h0
      try simp only [Act.put, List.setIfInBounds_toArray, List.set_cons_zero, List.set_cons_succ]
      refine wpAnyH_ready (rs := [1, 5]) (by kernel_rfl) (by simp) ?_
      refine AllReadyH.cons rfl (fun K hK => ?_) (AllReadyH.cons rfl (fun K hK => ?_) AllReadyH.nil)
      · go_simp
        go_at_call 7
        refine (HCN.out v1 D1.out).mono ?_
        rintro e v2 ⟨oU, cU, rfl, hU, b1⟩
        have s1 := b1.size
        have D2 : Hid (Below w3.heap.size w3 v2) := bel2 D1.out b1
        have K2 : Hid (v2.cell? ⟨w.heap.size, 0, none⟩ = some (.slice a0 ns.length cap0) ∧ v2.cell? ⟨w2.heap.size, 0, none⟩ = some (.int .i64 a2.layout) ∧ v2.cell? ⟨w2.heap.size, 1, none⟩ = some (.int .i64 a2.offset) ∧ v2.cell? ⟨w2.heap.size, 2, none⟩ = some (.int .i64 a2.length) ∧ v2.cell? ⟨w2.heap.size, 3, none⟩ = some (.string a2.valid) ∧ v2.cell? ⟨w2.heap.size, 4, none⟩ = some (.string a2.ends) ∧ v2.cell? ⟨w2.heap.size, 5, none⟩ = some (.string a2.data) ∧ v2.cell? ⟨w2.heap.size, 6, none⟩ = some (.slice oq2 a2.kids.length cq2)) := KLA.out _ D2.out
        refine hK.out _ _ K2.out (fun h2 => ?_)
        clear hK K h1
        try simp only [Act.put, List.setIfInBounds_toArray, List.set_cons_zero, List.set_cons_succ]
        refine wpAnyH_ready (rs := [3, 5]) (by kernel_rfl) (by simp) ?_
        refine AllReadyH.cons rfl (fun K hK => ?_) (AllReadyH.cons rfl (fun K hK => ?_) AllReadyH.nil)
        · go_simp
          go_at_call 8
          refine (HCA.out v2 D2.out).mono ?_
          rintro e v3 ⟨oA, cA, rfl, hA, b2⟩
          have s2 := b2.size
          have D3 : Hid (Below w3.heap.size w3 v3) := bel2 D2.out b2
          have K3 : Hid (v3.cell? ⟨w.heap.size, 0, none⟩ = some (.slice a0 ns.length cap0) ∧ v3.cell? ⟨w2.heap.size, 0, none⟩ = some (.int .i64 a2.layout) ∧ v3.cell? ⟨w2.heap.size, 1, none⟩ = some (.int .i64 a2.offset) ∧ v3.cell? ⟨w2.heap.size, 2, none⟩ = some (.int .i64 a2.length) ∧ v3.cell? ⟨w2.heap.size, 3, none⟩ = some (.string a2.valid) ∧ v3.cell? ⟨w2.heap.size, 4, none⟩ = some (.string a2.ends) ∧ v3.cell? ⟨w2.heap.size, 5, none⟩ = some (.string a2.data) ∧ v3.cell? ⟨w2.heap.size, 6, none⟩ = some (.slice oq2 a2.kids.length cq2)) := KLA.out _ D3.out
          refine hK.out _ _ K3.out (fun h3 => ?_)
          clear hK K h2
          try simp only [Act.put, List.setIfInBounds_toArray, List.set_cons_zero, List.set_cons_succ]
          refine wpAnyH_ready (rs := [5]) (by kernel_rfl) (by simp) ?_
          refine AllReadyH.cons rfl (fun K hK => ?_) AllReadyH.nil
          · go_simp
            obtain ⟨v4, e3, x8, b3, s3⟩ := box7 v3 nil none 0
            rw [show v3.alloc (.cells #[.int .i64 0, .int .i64 0, .int .i64 0, .string ⟨#[]⟩, .string ⟨#[]⟩, .string ⟨#[]⟩, .slice none 0 0] 27) = v4 from e3]
            have D4 : Hid (Below w3.heap.size w3 v4) := bel2 D3.out b3
            have K4 : Hid (v4.cell? ⟨w.heap.size, 0, none⟩ = some (.slice a0 ns.length cap0) ∧ v4.cell? ⟨w2.heap.size, 0, none⟩ = some (.int .i64 a2.layout) ∧ v4.cell? ⟨w2.heap.size, 1, none⟩ = some (.int .i64 a2.offset) ∧ v4.cell? ⟨w2.heap.size, 2, none⟩ = some (.int .i64 a2.length) ∧ v4.cell? ⟨w2.heap.size, 3, none⟩ = some (.string a2.valid) ∧ v4.cell? ⟨w2.heap.size, 4, none⟩ = some (.string a2.ends) ∧ v4.cell? ⟨w2.heap.size, 5, none⟩ = some (.string a2.data) ∧ v4.cell? ⟨w2.heap.size, 6, none⟩ = some (.slice oq2 a2.kids.length cq2)) := KLA.out _ D4.out
            refine hK.out _ _ K4.out (fun h4 => ?_)
            clear hK K h3
            try simp only [Act.put, List.setIfInBounds_toArray, List.set_cons_zero, List.set_cons_succ]
            have F7 := blk_later q7 (bel2 b1 (bel2 b2 b3))
            have F8 := x8.later (Below.refl _ _)
            have FU := ownsRow_grown hU (bel2 b2 b3)
            have FA : HoldsO 140737488351232 v4 (fq2 + 1) (fun b => b ≠ v0.heap.size ∧ b ≠ v3.heap.size) (a2.cells oA cA) a2 := hA.lt.stays (fun b hb => Below.block (show Below v3.heap.size v3 v4 from b3) b hb.2) (fun b hb => by have h1 := hb.1; have h2 := hb.2; constructor <;> omega)
            have FN : ∀ g, (Value.slice oU ns.length cU).ownBlock = some g → g ≠ v0.heap.size ∧ g ≠ v3.heap.size := fun g hg => by have h1 := (hU.lt g hg).1; have h2 := (hU.lt g hg).2; constructor <;> omega
            have FZ : Hid (Start w3 ns a2 fq2 (.pointer (some ⟨v0.heap.size, 0, none⟩)) (.pointer (some ⟨v3.heap.size, 0, none⟩)) ((((((((v4.setCell ⟨v0.heap.size, 0, none⟩ (.slice oU ns.length cU)).setCell ⟨v3.heap.size, 0, none⟩ (.int .i64 a2.layout)).setCell ⟨v3.heap.size, 1, none⟩ (.int .i64 a2.offset)).setCell ⟨v3.heap.size, 2, none⟩ (.int .i64 a2.length)).setCell ⟨v3.heap.size, 3, none⟩ (.string a2.valid)).setCell ⟨v3.heap.size, 4, none⟩ (.string a2.ends)).setCell ⟨v3.heap.size, 5, none⟩ (.string a2.data)).setCell ⟨v3.heap.size, 6, none⟩ (.slice oA a2.kids.length cA))) := startAll F7 F8 (by omega) (by have := D0.out.size; omega) (by have := D3.out.size; omega) FU FN FA D4.out
            have m7 : v4.cell? ⟨v0.heap.size, 0, none⟩ = some (.slice none 0 0) := by simp [World.cell?, F7]
            have z7 : v4.frozen? ⟨v0.heap.size, 0, none⟩ = false := by simp [World.frozen?, F7]
            have N8 : v3.heap.size ≠ v0.heap.size := by omega
            have D5 : Hid (Below w3.heap.size w3 (v4.setCell ⟨v0.heap.size, 0, none⟩ (.slice oU ns.length cU))) := D4.out.setCell (by have := D0.out.size; exact this) _
            have x5 : Bx (v4.setCell ⟨v0.heap.size, 0, none⟩ (.slice oU ns.length cU)) v3.heap.size nil none 0 := ⟨(Below.heap_setCell _ _ _ _ N8).trans F8.blk⟩
            clear F7 F8 FU FA FN hU hA q7 x8
            refine wpAnyH_ready (rs := [6]) (by kernel_rfl) (by simp) ?_
            refine AllReadyH.cons rfl (fun K hK => ?_) AllReadyH.nil
            go_simp
            generalize v4.setCell ⟨v0.heap.size, 0, none⟩ (.slice oU ns.length cU) = v5 at *
            have K5 : Hid (v5.cell? ⟨w.heap.size, 0, none⟩ = some (.slice a0 ns.length cap0) ∧ v5.cell? ⟨w2.heap.size, 0, none⟩ = some (.int .i64 a2.layout) ∧ v5.cell? ⟨w2.heap.size, 1, none⟩ = some (.int .i64 a2.offset) ∧ v5.cell? ⟨w2.heap.size, 2, none⟩ = some (.int .i64 a2.length) ∧ v5.cell? ⟨w2.heap.size, 3, none⟩ = some (.string a2.valid) ∧ v5.cell? ⟨w2.heap.size, 4, none⟩ = some (.string a2.ends) ∧ v5.cell? ⟨w2.heap.size, 5, none⟩ = some (.string a2.data) ∧ v5.cell? ⟨w2.heap.size, 6, none⟩ = some (.slice oq2 a2.kids.length cq2)) := KLA.out _ D5.out
            refine hK.out _ _ K5.out (fun h5 => ?_)
            clear hK K h4 m7 z7
            try simp only [Act.put, List.setIfInBounds_toArray, List.set_cons_zero, List.set_cons_succ]
            have g0 := x5.c0
            have g1 := x5.c1
            have g2 := x5.c2
            have g3 := x5.c3
            have g4 := x5.c4
            have g5 := x5.c5
            have g6 := x5.c6
            have f0 := x5.fz 0
            have f1 := x5.fz 1
            have f2 := x5.fz 2
            have f3 := x5.fz 3
            have f4 := x5.fz 4
            have f5 := x5.fz 5
            have f6 := x5.fz 6
            refine wpAnyH_ready (rs := [7]) (by kernel_rfl) (by simp) ?_
            refine AllReadyH.cons rfl (fun K hK => ?_) AllReadyH.nil
            go_simp
            obtain ⟨v6, e6, x6, h6, b6⟩ := set7 x5 a2 oA cA
            rw [e6]
            rw [e6] at FZ
            have D6 : Hid (Below w3.heap.size w3 v6) := D5.out.trans (b6 _ (by have := D3.out.size; exact this))
            have K6 : Hid (v6.cell? ⟨w.heap.size, 0, none⟩ = some (.slice a0 ns.length cap0) ∧ v6.cell? ⟨w2.heap.size, 0, none⟩ = some (.int .i64 a2.layout) ∧ v6.cell? ⟨w2.heap.size, 1, none⟩ = some (.int .i64 a2.offset) ∧ v6.cell? ⟨w2.heap.size, 2, none⟩ = some (.int .i64 a2.length) ∧ v6.cell? ⟨w2.heap.size, 3, none⟩ = some (.string a2.valid) ∧ v6.cell? ⟨w2.heap.size, 4, none⟩ = some (.string a2.ends) ∧ v6.cell? ⟨w2.heap.size, 5, none⟩ = some (.string a2.data) ∧ v6.cell? ⟨w2.heap.size, 6, none⟩ = some (.slice oq2 a2.kids.length cq2)) := KLA.out _ D6.out
            refine hK.out _ _ K6.out (fun h7 => ?_)
            clear hK K
            try simp only [Act.put, List.setIfInBounds_toArray, List.set_cons_zero, List.set_cons_succ]
            refine wpAnyH_done (by kernel_rfl) ?_ _
            refine NoPanic.normal ?_
            go_wp2_with fail
            go_meet
            case rel => exact FZ.out
        · go_simp
          obtain ⟨v3, e2, x8, b2, s2⟩ := box7 v2 nil none 0
          rw [show v2.alloc (.cells #[.int .i64 0, .int .i64 0, .int .i64 0, .string ⟨#[]⟩, .string ⟨#[]⟩, .string ⟨#[]⟩, .slice none 0 0] 27) = v3 from e2]
          have D3 : Hid (Below w3.heap.size w3 v3) := bel2 D2.out b2
          have K3 : Hid (v3.cell? ⟨w.heap.size, 0, none⟩ = some (.slice a0 ns.length cap0) ∧ v3.cell? ⟨w2.heap.size, 0, none⟩ = some (.int .i64 a2.layout) ∧ v3.cell? ⟨w2.heap.size, 1, none⟩ = some (.int .i64 a2.offset) ∧ v3.cell? ⟨w2.heap.size, 2, none⟩ = some (.int .i64 a2.length) ∧ v3.cell? ⟨w2.heap.size, 3, none⟩ = some (.string a2.valid) ∧ v3.cell? ⟨w2.heap.size, 4, none⟩ = some (.string a2.ends) ∧ v3.cell? ⟨w2.heap.size, 5, none⟩ = some (.string a2.data) ∧ v3.cell? ⟨w2.heap.size, 6, none⟩ = some (.slice oq2 a2.kids.length cq2)) := KLA.out _ D3.out
          refine hK.out _ _ K3.out (fun h3 => ?_)
          clear hK K h2
          try simp only [Act.put, List.setIfInBounds_toArray, List.set_cons_zero, List.set_cons_succ]
          refine wpAnyH_ready (rs := [3]) (by kernel_rfl) (by simp) ?_
          refine AllReadyH.cons rfl (fun K hK => ?_) AllReadyH.nil
          · go_simp
            go_at_call 8
            refine (HCA.out v3 D3.out).mono ?_
            rintro e v4 ⟨oA, cA, rfl, hA, b3⟩
            have s3 := b3.size
            have D4 : Hid (Below w3.heap.size w3 v4) := bel2 D3.out b3
            have K4 : Hid (v4.cell? ⟨w.heap.size, 0, none⟩ = some (.slice a0 ns.length cap0) ∧ v4.cell? ⟨w2.heap.size, 0, none⟩ = some (.int .i64 a2.layout) ∧ v4.cell? ⟨w2.heap.size, 1, none⟩ = some (.int .i64 a2.offset) ∧ v4.cell? ⟨w2.heap.size, 2, none⟩ = some (.int .i64 a2.length) ∧ v4.cell? ⟨w2.heap.size, 3, none⟩ = some (.string a2.valid) ∧ v4.cell? ⟨w2.heap.size, 4, none⟩ = some (.string a2.ends) ∧ v4.cell? ⟨w2.heap.size, 5, none⟩ = some (.string a2.data) ∧ v4.cell? ⟨w2.heap.size, 6, none⟩ = some (.slice oq2 a2.kids.length cq2)) := KLA.out _ D4.out
            refine hK.out _ _ K4.out (fun h4 => ?_)
            clear hK K h3
            try simp only [Act.put, List.setIfInBounds_toArray, List.set_cons_zero, List.set_cons_succ]
            have F7 := blk_later q7 (bel2 b1 (bel2 b2 b3))
            have F8 := x8.later b3
            have FU := ownsRow_grown hU (bel2 b2 b3)
            have FA : HoldsO 140737488351232 v4 (fq2 + 1) (fun b => b ≠ v0.heap.size ∧ b ≠ v2.heap.size) (a2.cells oA cA) a2 := hA.lt.stays (fun b hb => Below.block (show Below v4.heap.size v4 v4 from (Below.refl _ _)) b hb.2) (fun b hb => by have h1 := hb.1; have h2 := hb.2; constructor <;> omega)
            have FN : ∀ g, (Value.slice oU ns.length cU).ownBlock = some g → g ≠ v0.heap.size ∧ g ≠ v2.heap.size := fun g hg => by have h1 := (hU.lt g hg).1; have h2 := (hU.lt g hg).2; constructor <;> omega
            have FZ : Hid (Start w3 ns a2 fq2 (.pointer (some ⟨v0.heap.size, 0, none⟩)) (.pointer (some ⟨v2.heap.size, 0, none⟩)) ((((((((v4.setCell ⟨v0.heap.size, 0, none⟩ (.slice oU ns.length cU)).setCell ⟨v2.heap.size, 0, none⟩ (.int .i64 a2.layout)).setCell ⟨v2.heap.size, 1, none⟩ (.int .i64 a2.offset)).setCell ⟨v2.heap.size, 2, none⟩ (.int .i64 a2.length)).setCell ⟨v2.heap.size, 3, none⟩ (.string a2.valid)).setCell ⟨v2.heap.size, 4, none⟩ (.string a2.ends)).setCell ⟨v2.heap.size, 5, none⟩ (.string a2.data)).setCell ⟨v2.heap.size, 6, none⟩ (.slice oA a2.kids.length cA))) := startAll F7 F8 (by omega) (by have := D0.out.size; omega) (by have := D2.out.size; omega) FU FN FA D4.out
            have m7 : v4.cell? ⟨v0.heap.size, 0, none⟩ = some (.slice none 0 0) := by simp [World.cell?, F7]
            have z7 : v4.frozen? ⟨v0.heap.size, 0, none⟩ = false := by simp [World.frozen?, F7]
            have N8 : v2.heap.size ≠ v0.heap.size := by omega
            have D5 : Hid (Below w3.heap.size w3 (v4.setCell ⟨v0.heap.size, 0, none⟩ (.slice oU ns.length cU))) := D4.out.setCell (by have := D0.out.size; exact this) _
            have x5 : Bx (v4.setCell ⟨v0.heap.size, 0, none⟩ (.slice oU ns.length cU)) v2.heap.size nil none 0 := ⟨(Below.heap_setCell _ _ _ _ N8).trans F8.blk⟩
            clear F7 F8 FU FA FN hU hA q7 x8
            refine wpAnyH_ready (rs := [6]) (by kernel_rfl) (by simp) ?_
            refine AllReadyH.cons rfl (fun K hK => ?_) AllReadyH.nil
            go_simp
            generalize v4.setCell ⟨v0.heap.size, 0, none⟩ (.slice oU ns.length cU) = v5 at *
            have K5 : Hid (v5.cell? ⟨w.heap.size, 0, none⟩ = some (.slice a0 ns.length cap0) ∧ v5.cell? ⟨w2.heap.size, 0, none⟩ = some (.int .i64 a2.layout) ∧ v5.cell? ⟨w2.heap.size, 1, none⟩ = some (.int .i64 a2.offset) ∧ v5.cell? ⟨w2.heap.size, 2, none⟩ = some (.int .i64 a2.length) ∧ v5.cell? ⟨w2.heap.size, 3, none⟩ = some (.string a2.valid) ∧ v5.cell? ⟨w2.heap.size, 4, none⟩ = some (.string a2.ends) ∧ v5.cell? ⟨w2.heap.size, 5, none⟩ = some (.string a2.data) ∧ v5.cell? ⟨w2.heap.size, 6, none⟩ = some (.slice oq2 a2.kids.length cq2)) := KLA.out _ D5.out
            refine hK.out _ _ K5.out (fun h5 => ?_)
            clear hK K h4 m7 z7
            try simp only [Act.put, List.setIfInBounds_toArray, List.set_cons_zero, List.set_cons_succ]
            have g0 := x5.c0
            have g1 := x5.c1
            have g2 := x5.c2
            have g3 := x5.c3
            have g4 := x5.c4
            have g5 := x5.c5
            have g6 := x5.c6
            have f0 := x5.fz 0
            have f1 := x5.fz 1
            have f2 := x5.fz 2
            have f3 := x5.fz 3
            have f4 := x5.fz 4
            have f5 := x5.fz 5
            have f6 := x5.fz 6
            refine wpAnyH_ready (rs := [7]) (by kernel_rfl) (by simp) ?_
            refine AllReadyH.cons rfl (fun K hK => ?_) AllReadyH.nil
            go_simp
            obtain ⟨v6, e6, x6, h6, b6⟩ := set7 x5 a2 oA cA
            rw [e6]
            rw [e6] at FZ
            have D6 : Hid (Below w3.heap.size w3 v6) := D5.out.trans (b6 _ (by have := D2.out.size; exact this))
            have K6 : Hid (v6.cell? ⟨w.heap.size, 0, none⟩ = some (.slice a0 ns.length cap0) ∧ v6.cell? ⟨w2.heap.size, 0, none⟩ = some (.int .i64 a2.layout) ∧ v6.cell? ⟨w2.heap.size, 1, none⟩ = some (.int .i64 a2.offset) ∧ v6.cell? ⟨w2.heap.size, 2, none⟩ = some (.int .i64 a2.length) ∧ v6.cell? ⟨w2.heap.size, 3, none⟩ = some (.string a2.valid) ∧ v6.cell? ⟨w2.heap.size, 4, none⟩ = some (.string a2.ends) ∧ v6.cell? ⟨w2.heap.size, 5, none⟩ = some (.string a2.data) ∧ v6.cell? ⟨w2.heap.size, 6, none⟩ = some (.slice oq2 a2.kids.length cq2)) := KLA.out _ D6.out
            refine hK.out _ _ K6.out (fun h7 => ?_)
            clear hK K
            try simp only [Act.put, List.setIfInBounds_toArray, List.set_cons_zero, List.set_cons_succ]
            refine wpAnyH_done (by kernel_rfl) ?_ _
            refine NoPanic.normal ?_
            go_wp2_with fail
            go_meet
            case rel => exact FZ.out
      · go_simp
        obtain ⟨v2, e1, x8, b1, s1⟩ := box7 v1 nil none 0
        rw [show v1.alloc (.cells #[.int .i64 0, .int .i64 0, .int .i64 0, .string ⟨#[]⟩, .string ⟨#[]⟩, .string ⟨#[]⟩, .slice none 0 0] 27) = v2 from e1]
        have D2 : Hid (Below w3.heap.size w3 v2) := bel2 D1.out b1
        have K2 : Hid (v2.cell? ⟨w.heap.size, 0, none⟩ = some (.slice a0 ns.length cap0) ∧ v2.cell? ⟨w2.heap.size, 0, none⟩ = some (.int .i64 a2.layout) ∧ v2.cell? ⟨w2.heap.size, 1, none⟩ = some (.int .i64 a2.offset) ∧ v2.cell? ⟨w2.heap.size, 2, none⟩ = some (.int .i64 a2.length) ∧ v2.cell? ⟨w2.heap.size, 3, none⟩ = some (.string a2.valid) ∧ v2.cell? ⟨w2.heap.size, 4, none⟩ = some (.string a2.ends) ∧ v2.cell? ⟨w2.heap.size, 5, none⟩ = some (.string a2.data) ∧ v2.cell? ⟨w2.heap.size, 6, none⟩ = some (.slice oq2 a2.kids.length cq2)) := KLA.out _ D2.out
        refine hK.out _ _ K2.out (fun h2 => ?_)
        clear hK K h1
        try simp only [Act.put, List.setIfInBounds_toArray, List.set_cons_zero, List.set_cons_succ]
        refine wpAnyH_ready (rs := [1]) (by kernel_rfl) (by simp) ?_
        refine AllReadyH.cons rfl (fun K hK => ?_) AllReadyH.nil
        · go_simp
          go_at_call 7
          refine (HCN.out v2 D2.out).mono ?_
          rintro e v3 ⟨oU, cU, rfl, hU, b2⟩
          have s2 := b2.size
          have D3 : Hid (Below w3.heap.size w3 v3) := bel2 D2.out b2
          have K3 : Hid (v3.cell? ⟨w.heap.size, 0, none⟩ = some (.slice a0 ns.length cap0) ∧ v3.cell? ⟨w2.heap.size, 0, none⟩ = some (.int .i64 a2.layout) ∧ v3.cell? ⟨w2.heap.size, 1, none⟩ = some (.int .i64 a2.offset) ∧ v3.cell? ⟨w2.heap.size, 2, none⟩ = some (.int .i64 a2.length) ∧ v3.cell? ⟨w2.heap.size, 3, none⟩ = some (.string a2.valid) ∧ v3.cell? ⟨w2.heap.size, 4, none⟩ = some (.string a2.ends) ∧ v3.cell? ⟨w2.heap.size, 5, none⟩ = some (.string a2.data) ∧ v3.cell? ⟨w2.heap.size, 6, none⟩ = some (.slice oq2 a2.kids.length cq2)) := KLA.out _ D3.out
          refine hK.out _ _ K3.out (fun h3 => ?_)
          clear hK K h2
          try simp only [Act.put, List.setIfInBounds_toArray, List.set_cons_zero, List.set_cons_succ]
          refine wpAnyH_ready (rs := [3]) (by kernel_rfl) (by simp) ?_
          refine AllReadyH.cons rfl (fun K hK => ?_) AllReadyH.nil
          · go_simp
            go_at_call 8
            refine (HCA.out v3 D3.out).mono ?_
            rintro e v4 ⟨oA, cA, rfl, hA, b3⟩
            have s3 := b3.size
            have D4 : Hid (Below w3.heap.size w3 v4) := bel2 D3.out b3
            have K4 : Hid (v4.cell? ⟨w.heap.size, 0, none⟩ = some (.slice a0 ns.length cap0) ∧ v4.cell? ⟨w2.heap.size, 0, none⟩ = some (.int .i64 a2.layout) ∧ v4.cell? ⟨w2.heap.size, 1, none⟩ = some (.int .i64 a2.offset) ∧ v4.cell? ⟨w2.heap.size, 2, none⟩ = some (.int .i64 a2.length) ∧ v4.cell? ⟨w2.heap.size, 3, none⟩ = some (.string a2.valid) ∧ v4.cell? ⟨w2.heap.size, 4, none⟩ = some (.string a2.ends) ∧ v4.cell? ⟨w2.heap.size, 5, none⟩ = some (.string a2.data) ∧ v4.cell? ⟨w2.heap.size, 6, none⟩ = some (.slice oq2 a2.kids.length cq2)) := KLA.out _ D4.out
            refine hK.out _ _ K4.out (fun h4 => ?_)
            clear hK K h3
            try simp only [Act.put, List.setIfInBounds_toArray, List.set_cons_zero, List.set_cons_succ]
            have F7 := blk_later q7 (bel2 b1 (bel2 b2 b3))
            have F8 := x8.later (bel2 b2 b3)
            have FU := ownsRow_grown hU b3
            have FA : HoldsO 140737488351232 v4 (fq2 + 1) (fun b => b ≠ v0.heap.size ∧ b ≠ v1.heap.size) (a2.cells oA cA) a2 := hA.lt.stays (fun b hb => Below.block (show Below v4.heap.size v4 v4 from (Below.refl _ _)) b hb.2) (fun b hb => by have h1 := hb.1; have h2 := hb.2; constructor <;> omega)
            have FN : ∀ g, (Value.slice oU ns.length cU).ownBlock = some g → g ≠ v0.heap.size ∧ g ≠ v1.heap.size := fun g hg => by have h1 := (hU.lt g hg).1; have h2 := (hU.lt g hg).2; constructor <;> omega
            have FZ : Hid (Start w3 ns a2 fq2 (.pointer (some ⟨v0.heap.size, 0, none⟩)) (.pointer (some ⟨v1.heap.size, 0, none⟩)) ((((((((v4.setCell ⟨v0.heap.size, 0, none⟩ (.slice oU ns.length cU)).setCell ⟨v1.heap.size, 0, none⟩ (.int .i64 a2.layout)).setCell ⟨v1.heap.size, 1, none⟩ (.int .i64 a2.offset)).setCell ⟨v1.heap.size, 2, none⟩ (.int .i64 a2.length)).setCell ⟨v1.heap.size, 3, none⟩ (.string a2.valid)).setCell ⟨v1.heap.size, 4, none⟩ (.string a2.ends)).setCell ⟨v1.heap.size, 5, none⟩ (.string a2.data)).setCell ⟨v1.heap.size, 6, none⟩ (.slice oA a2.kids.length cA))) := startAll F7 F8 (by omega) (by have := D0.out.size; omega) (by have := D1.out.size; omega) FU FN FA D4.out
            have m7 : v4.cell? ⟨v0.heap.size, 0, none⟩ = some (.slice none 0 0) := by simp [World.cell?, F7]
            have z7 : v4.frozen? ⟨v0.heap.size, 0, none⟩ = false := by simp [World.frozen?, F7]
            have N8 : v1.heap.size ≠ v0.heap.size := by omega
            have D5 : Hid (Below w3.heap.size w3 (v4.setCell ⟨v0.heap.size, 0, none⟩ (.slice oU ns.length cU))) := D4.out.setCell (by have := D0.out.size; exact this) _
            have x5 : Bx (v4.setCell ⟨v0.heap.size, 0, none⟩ (.slice oU ns.length cU)) v1.heap.size nil none 0 := ⟨(Below.heap_setCell _ _ _ _ N8).trans F8.blk⟩
            clear F7 F8 FU FA FN hU hA q7 x8
            refine wpAnyH_ready (rs := [6]) (by kernel_rfl) (by simp) ?_
            refine AllReadyH.cons rfl (fun K hK => ?_) AllReadyH.nil
            go_simp
            generalize v4.setCell ⟨v0.heap.size, 0, none⟩ (.slice oU ns.length cU) = v5 at *
            have K5 : Hid (v5.cell? ⟨w.heap.size, 0, none⟩ = some (.slice a0 ns.length cap0) ∧ v5.cell? ⟨w2.heap.size, 0, none⟩ = some (.int .i64 a2.layout) ∧ v5.cell? ⟨w2.heap.size, 1, none⟩ = some (.int .i64 a2.offset) ∧ v5.cell? ⟨w2.heap.size, 2, none⟩ = some (.int .i64 a2.length) ∧ v5.cell? ⟨w2.heap.size, 3, none⟩ = some (.string a2.valid) ∧ v5.cell? ⟨w2.heap.size, 4, none⟩ = some (.string a2.ends) ∧ v5.cell? ⟨w2.heap.size, 5, none⟩ = some (.string a2.data) ∧ v5.cell? ⟨w2.heap.size, 6, none⟩ = some (.slice oq2 a2.kids.length cq2)) := KLA.out _ D5.out
            refine hK.out _ _ K5.out (fun h5 => ?_)
            clear hK K h4 m7 z7
            try simp only [Act.put, List.setIfInBounds_toArray, List.set_cons_zero, List.set_cons_succ]
            have g0 := x5.c0
            have g1 := x5.c1
            have g2 := x5.c2
            have g3 := x5.c3
            have g4 := x5.c4
            have g5 := x5.c5
            have g6 := x5.c6
            have f0 := x5.fz 0
            have f1 := x5.fz 1
            have f2 := x5.fz 2
            have f3 := x5.fz 3
            have f4 := x5.fz 4
            have f5 := x5.fz 5
            have f6 := x5.fz 6
            refine wpAnyH_ready (rs := [7]) (by kernel_rfl) (by simp) ?_
            refine AllReadyH.cons rfl (fun K hK => ?_) AllReadyH.nil
            go_simp
            obtain ⟨v6, e6, x6, h6, b6⟩ := set7 x5 a2 oA cA
            rw [e6]
            rw [e6] at FZ
            have D6 : Hid (Below w3.heap.size w3 v6) := D5.out.trans (b6 _ (by have := D1.out.size; exact this))
            have K6 : Hid (v6.cell? ⟨w.heap.size, 0, none⟩ = some (.slice a0 ns.length cap0) ∧ v6.cell? ⟨w2.heap.size, 0, none⟩ = some (.int .i64 a2.layout) ∧ v6.cell? ⟨w2.heap.size, 1, none⟩ = some (.int .i64 a2.offset) ∧ v6.cell? ⟨w2.heap.size, 2, none⟩ = some (.int .i64 a2.length) ∧ v6.cell? ⟨w2.heap.size, 3, none⟩ = some (.string a2.valid) ∧ v6.cell? ⟨w2.heap.size, 4, none⟩ = some (.string a2.ends) ∧ v6.cell? ⟨w2.heap.size, 5, none⟩ = some (.string a2.data) ∧ v6.cell? ⟨w2.heap.size, 6, none⟩ = some (.slice oq2 a2.kids.length cq2)) := KLA.out _ D6.out
            refine hK.out _ _ K6.out (fun h7 => ?_)
            clear hK K
            try simp only [Act.put, List.setIfInBounds_toArray, List.set_cons_zero, List.set_cons_succ]
            refine wpAnyH_done (by kernel_rfl) ?_ _
            refine NoPanic.normal ?_
            go_wp2_with fail
            go_meet
            case rel => exact FZ.out
    · go_simp
      obtain ⟨v1, e0, x8, b0, s0⟩ := box7 v0 nil none 0
      rw [show v0.alloc (.cells #[.int .i64 0, .int .i64 0, .int .i64 0, .string ⟨#[]⟩, .string ⟨#[]⟩, .string ⟨#[]⟩, .slice none 0 0] 27) = v1 from e0]
      have D1 : Hid (Below w3.heap.size w3 v1) := bel2 D0.out b0
      have K1 : Hid (v1.cell? ⟨w.heap.size, 0, none⟩ = some (.slice a0 ns.length cap0) ∧ v1.cell? ⟨w2.heap.size, 0, none⟩ = some (.int .i64 a2.layout) ∧ v1.cell? ⟨w2.heap.size, 1, none⟩ = some (.int .i64 a2.offset) ∧ v1.cell? ⟨w2.heap.size, 2, none⟩ = some (.int .i64 a2.length) ∧ v1.cell? ⟨w2.heap.size, 3, none⟩ = some (.string a2.valid) ∧ v1.cell? ⟨w2.heap.size, 4, none⟩ = some (.string a2.ends) ∧ v1.cell? ⟨w2.heap.size, 5, none⟩ = some (.string a2.data) ∧ v1.cell? ⟨w2.heap.size, 6, none⟩ = some (.slice oq2 a2.kids.length cq2)) := KLA.out _ D1.out
      refine hK.out _ _ K1.out (fun h1 => ?_)
      clear hK K h0
      try simp only [Act.put, List.setIfInBounds_toArray, List.set_cons_zero, List.set_cons_succ]
      refine wpAnyH_ready (rs := [1, 4]) (by kernel_rfl) (by simp) ?_
      refine AllReadyH.cons rfl (fun K hK => ?_) (AllReadyH.cons rfl (fun K hK => ?_) AllReadyH.nil)
      · go_simp
        go_at_call 7
        refine (HCN.out v1 D1.out).mono ?_
        rintro e v2 ⟨oU, cU, rfl, hU, b1⟩
        have s1 := b1.size
        have D2 : Hid (Below w3.heap.size w3 v2) := bel2 D1.out b1
        have K2 : Hid (v2.cell? ⟨w.heap.size, 0, none⟩ = some (.slice a0 ns.length cap0) ∧ v2.cell? ⟨w2.heap.size, 0, none⟩ = some (.int .i64 a2.layout) ∧ v2.cell? ⟨w2.heap.size, 1, none⟩ = some (.int .i64 a2.offset) ∧ v2.cell? ⟨w2.heap.size, 2, none⟩ = some (.int .i64 a2.length) ∧ v2.cell? ⟨w2.heap.size, 3, none⟩ = some (.string a2.valid) ∧ v2.cell? ⟨w2.heap.size, 4, none⟩ = some (.string a2.ends) ∧ v2.cell? ⟨w2.heap.size, 5, none⟩ = some (.string a2.data) ∧ v2.cell? ⟨w2.heap.size, 6, none⟩ = some (.slice oq2 a2.kids.length cq2)) := KLA.out _ D2.out
        refine hK.out _ _ K2.out (fun h2 => ?_)
        clear hK K h1
        try simp only [Act.put, List.setIfInBounds_toArray, List.set_cons_zero, List.set_cons_succ]
        refine wpAnyH_ready (rs := [3, 4]) (by kernel_rfl) (by simp) ?_
        refine AllReadyH.cons rfl (fun K hK => ?_) (AllReadyH.cons rfl (fun K hK => ?_) AllReadyH.nil)
        · go_simp
          go_at_call 8
          refine (HCA.out v2 D2.out).mono ?_
          rintro e v3 ⟨oA, cA, rfl, hA, b2⟩
          have s2 := b2.size
          have D3 : Hid (Below w3.heap.size w3 v3) := bel2 D2.out b2
          have K3 : Hid (v3.cell? ⟨w.heap.size, 0, none⟩ = some (.slice a0 ns.length cap0) ∧ v3.cell? ⟨w2.heap.size, 0, none⟩ = some (.int .i64 a2.layout) ∧ v3.cell? ⟨w2.heap.size, 1, none⟩ = some (.int .i64 a2.offset) ∧ v3.cell? ⟨w2.heap.size, 2, none⟩ = some (.int .i64 a2.length) ∧ v3.cell? ⟨w2.heap.size, 3, none⟩ = some (.string a2.valid) ∧ v3.cell? ⟨w2.heap.size, 4, none⟩ = some (.string a2.ends) ∧ v3.cell? ⟨w2.heap.size, 5, none⟩ = some (.string a2.data) ∧ v3.cell? ⟨w2.heap.size, 6, none⟩ = some (.slice oq2 a2.kids.length cq2)) := KLA.out _ D3.out
          refine hK.out _ _ K3.out (fun h3 => ?_)
          clear hK K h2
          try simp only [Act.put, List.setIfInBounds_toArray, List.set_cons_zero, List.set_cons_succ]
          refine wpAnyH_ready (rs := [4]) (by kernel_rfl) (by simp) ?_
          refine AllReadyH.cons rfl (fun K hK => ?_) AllReadyH.nil
          · go_simp
            obtain ⟨v4, e3, s3, c3, b3⟩ := boxed v3 (.slice none 0 0) 24
            rw [e3]
            have q7 : v4.heap[v3.heap.size]? = some (.cells #[.slice none 0 0] 24) := by rw [← e3]; exact heap_alloc_new _ _
            have D4 : Hid (Below w3.heap.size w3 v4) := bel2 D3.out b3
            have K4 : Hid (v4.cell? ⟨w.heap.size, 0, none⟩ = some (.slice a0 ns.length cap0) ∧ v4.cell? ⟨w2.heap.size, 0, none⟩ = some (.int .i64 a2.layout) ∧ v4.cell? ⟨w2.heap.size, 1, none⟩ = some (.int .i64 a2.offset) ∧ v4.cell? ⟨w2.heap.size, 2, none⟩ = some (.int .i64 a2.length) ∧ v4.cell? ⟨w2.heap.size, 3, none⟩ = some (.string a2.valid) ∧ v4.cell? ⟨w2.heap.size, 4, none⟩ = some (.string a2.ends) ∧ v4.cell? ⟨w2.heap.size, 5, none⟩ = some (.string a2.data) ∧ v4.cell? ⟨w2.heap.size, 6, none⟩ = some (.slice oq2 a2.kids.length cq2)) := KLA.out _ D4.out
            refine hK.out _ _ K4.out (fun h4 => ?_)
            clear hK K h3
            try simp only [Act.put, List.setIfInBounds_toArray, List.set_cons_zero, List.set_cons_succ]
            have F7 := blk_later q7 (Below.refl _ _)
            have F8 := x8.later (bel2 b1 (bel2 b2 b3))
            have FU := ownsRow_grown hU (bel2 b2 b3)
            have FA : HoldsO 140737488351232 v4 (fq2 + 1) (fun b => b ≠ v3.heap.size ∧ b ≠ v0.heap.size) (a2.cells oA cA) a2 := hA.lt.stays (fun b hb => Below.block (show Below v3.heap.size v3 v4 from b3) b hb.2) (fun b hb => by have h1 := hb.1; have h2 := hb.2; constructor <;> omega)
            have FN : ∀ g, (Value.slice oU ns.length cU).ownBlock = some g → g ≠ v3.heap.size ∧ g ≠ v0.heap.size := fun g hg => by have h1 := (hU.lt g hg).1; have h2 := (hU.lt g hg).2; constructor <;> omega
            have FZ : Hid (Start w3 ns a2 fq2 (.pointer (some ⟨v3.heap.size, 0, none⟩)) (.pointer (some ⟨v0.heap.size, 0, none⟩)) ((((((((v4.setCell ⟨v3.heap.size, 0, none⟩ (.slice oU ns.length cU)).setCell ⟨v0.heap.size, 0, none⟩ (.int .i64 a2.layout)).setCell ⟨v0.heap.size, 1, none⟩ (.int .i64 a2.offset)).setCell ⟨v0.heap.size, 2, none⟩ (.int .i64 a2.length)).setCell ⟨v0.heap.size, 3, none⟩ (.string a2.valid)).setCell ⟨v0.heap.size, 4, none⟩ (.string a2.ends)).setCell ⟨v0.heap.size, 5, none⟩ (.string a2.data)).setCell ⟨v0.heap.size, 6, none⟩ (.slice oA a2.kids.length cA))) := startAll F7 F8 (by omega) (by have := D3.out.size; omega) (by have := D0.out.size; omega) FU FN FA D4.out
            have m7 : v4.cell? ⟨v3.heap.size, 0, none⟩ = some (.slice none 0 0) := by simp [World.cell?, F7]
            have z7 : v4.frozen? ⟨v3.heap.size, 0, none⟩ = false := by simp [World.frozen?, F7]
            have N8 : v0.heap.size ≠ v3.heap.size := by omega
            have D5 : Hid (Below w3.heap.size w3 (v4.setCell ⟨v3.heap.size, 0, none⟩ (.slice oU ns.length cU))) := D4.out.setCell (by have := D3.out.size; exact this) _
            have x5 : Bx (v4.setCell ⟨v3.heap.size, 0, none⟩ (.slice oU ns.length cU)) v0.heap.size nil none 0 := ⟨(Below.heap_setCell _ _ _ _ N8).trans F8.blk⟩
            clear F7 F8 FU FA FN hU hA q7 x8
            refine wpAnyH_ready (rs := [6]) (by kernel_rfl) (by simp) ?_
            refine AllReadyH.cons rfl (fun K hK => ?_) AllReadyH.nil
            go_simp
            generalize v4.setCell ⟨v3.heap.size, 0, none⟩ (.slice oU ns.length cU) = v5 at *
            have K5 : Hid (v5.cell? ⟨w.heap.size, 0, none⟩ = some (.slice a0 ns.length cap0) ∧ v5.cell? ⟨w2.heap.size, 0, none⟩ = some (.int .i64 a2.layout) ∧ v5.cell? ⟨w2.heap.size, 1, none⟩ = some (.int .i64 a2.offset) ∧ v5.cell? ⟨w2.heap.size, 2, none⟩ = some (.int .i64 a2.length) ∧ v5.cell? ⟨w2.heap.size, 3, none⟩ = some (.string a2.valid) ∧ v5.cell? ⟨w2.heap.size, 4, none⟩ = some (.string a2.ends) ∧ v5.cell? ⟨w2.heap.size, 5, none⟩ = some (.string a2.data) ∧ v5.cell? ⟨w2.heap.size, 6, none⟩ = some (.slice oq2 a2.kids.length cq2)) := KLA.out _ D5.out
            refine hK.out _ _ K5.out (fun h5 => ?_)
            clear hK K h4 m7 z7
            try simp only [Act.put, List.setIfInBounds_toArray, List.set_cons_zero, List.set_cons_succ]
            have g0 := x5.c0
            have g1 := x5.c1
            have g2 := x5.c2
            have g3 := x5.c3
            have g4 := x5.c4
            have g5 := x5.c5
            have g6 := x5.c6
            have f0 := x5.fz 0
            have f1 := x5.fz 1
            have f2 := x5.fz 2
            have f3 := x5.fz 3
            have f4 := x5.fz 4
            have f5 := x5.fz 5
            have f6 := x5.fz 6
            refine wpAnyH_ready (rs := [7]) (by kernel_rfl) (by simp) ?_
            refine AllReadyH.cons rfl (fun K hK => ?_) AllReadyH.nil
            go_simp
            obtain ⟨v6, e6, x6, h6, b6⟩ := set7 x5 a2 oA cA
            rw [e6]
            rw [e6] at FZ
            have D6 : Hid (Below w3.heap.size w3 v6) := D5.out.trans (b6 _ (by have := D0.out.size; exact this))
            have K6 : Hid (v6.cell? ⟨w.heap.size, 0, none⟩ = some (.slice a0 ns.length cap0) ∧ v6.cell? ⟨w2.heap.size, 0, none⟩ = some (.int .i64 a2.layout) ∧ v6.cell? ⟨w2.heap.size, 1, none⟩ = some (.int .i64 a2.offset) ∧ v6.cell? ⟨w2.heap.size, 2, none⟩ = some (.int .i64 a2.length) ∧ v6.cell? ⟨w2.heap.size, 3, none⟩ = some (.string a2.valid) ∧ v6.cell? ⟨w2.heap.size, 4, none⟩ = some (.string a2.ends) ∧ v6.cell? ⟨w2.heap.size, 5, none⟩ = some (.string a2.data) ∧ v6.cell? ⟨w2.heap.size, 6, none⟩ = some (.slice oq2 a2.kids.length cq2)) := KLA.out _ D6.out
            refine hK.out _ _ K6.out (fun h7 => ?_)
            clear hK K
            try simp only [Act.put, List.setIfInBounds_toArray, List.set_cons_zero, List.set_cons_succ]
            refine wpAnyH_done (by kernel_rfl) ?_ _
            refine NoPanic.normal ?_
            go_wp2_with fail
            go_meet
            case rel => exact FZ.out
        · go_simp
          obtain ⟨v3, e2, s2, c2, b2⟩ := boxed v2 (.slice none 0 0) 24
          rw [e2]
          have q7 : v3.heap[v2.heap.size]? = some (.cells #[.slice none 0 0] 24) := by rw [← e2]; exact heap_alloc_new _ _
          have D3 : Hid (Below w3.heap.size w3 v3) := bel2 D2.out b2
          have K3 : Hid (v3.cell? ⟨w.heap.size, 0, none⟩ = some (.slice a0 ns.length cap0) ∧ v3.cell? ⟨w2.heap.size, 0, none⟩ = some (.int .i64 a2.layout) ∧ v3.cell? ⟨w2.heap.size, 1, none⟩ = some (.int .i64 a2.offset) ∧ v3.cell? ⟨w2.heap.size, 2, none⟩ = some (.int .i64 a2.length) ∧ v3.cell? ⟨w2.heap.size, 3, none⟩ = some (.string a2.valid) ∧ v3.cell? ⟨w2.heap.size, 4, none⟩ = some (.string a2.ends) ∧ v3.cell? ⟨w2.heap.size, 5, none⟩ = some (.string a2.data) ∧ v3.cell? ⟨w2.heap.size, 6, none⟩ = some (.slice oq2 a2.kids.length cq2)) := KLA.out _ D3.out
          refine hK.out _ _ K3.out (fun h3 => ?_)
          clear hK K h2
          try simp only [Act.put, List.setIfInBounds_toArray, List.set_cons_zero, List.set_cons_succ]
          refine wpAnyH_ready (rs := [3]) (by kernel_rfl) (by simp) ?_
          refine AllReadyH.cons rfl (fun K hK => ?_) AllReadyH.nil
          · go_simp
            go_at_call 8
            refine (HCA.out v3 D3.out).mono ?_
            rintro e v4 ⟨oA, cA, rfl, hA, b3⟩
            have s3 := b3.size
            have D4 : Hid (Below w3.heap.size w3 v4) := bel2 D3.out b3
            have K4 : Hid (v4.cell? ⟨w.heap.size, 0, none⟩ = some (.slice a0 ns.length cap0) ∧ v4.cell? ⟨w2.heap.size, 0, none⟩ = some (.int .i64 a2.layout) ∧ v4.cell? ⟨w2.heap.size, 1, none⟩ = some (.int .i64 a2.offset) ∧ v4.cell? ⟨w2.heap.size, 2, none⟩ = some (.int .i64 a2.length) ∧ v4.cell? ⟨w2.heap.size, 3, none⟩ = some (.string a2.valid) ∧ v4.cell? ⟨w2.heap.size, 4, none⟩ = some (.string a2.ends) ∧ v4.cell? ⟨w2.heap.size, 5, none⟩ = some (.string a2.data) ∧ v4.cell? ⟨w2.heap.size, 6, none⟩ = some (.slice oq2 a2.kids.length cq2)) := KLA.out _ D4.out
            refine hK.out _ _ K4.out (fun h4 => ?_)
            clear hK K h3
            try simp only [Act.put, List.setIfInBounds_toArray, List.set_cons_zero, List.set_cons_succ]
            have F7 := blk_later q7 b3
            have F8 := x8.later (bel2 b1 (bel2 b2 b3))
            have FU := ownsRow_grown hU (bel2 b2 b3)
            have FA : HoldsO 140737488351232 v4 (fq2 + 1) (fun b => b ≠ v2.heap.size ∧ b ≠ v0.heap.size) (a2.cells oA cA) a2 := hA.lt.stays (fun b hb => Below.block (show Below v4.heap.size v4 v4 from (Below.refl _ _)) b hb.2) (fun b hb => by have h1 := hb.1; have h2 := hb.2; constructor <;> omega)
            have FN : ∀ g, (Value.slice oU ns.length cU).ownBlock = some g → g ≠ v2.heap.size ∧ g ≠ v0.heap.size := fun g hg => by have h1 := (hU.lt g hg).1; have h2 := (hU.lt g hg).2; constructor <;> omega
            have FZ : Hid (Start w3 ns a2 fq2 (.pointer (some ⟨v2.heap.size, 0, none⟩)) (.pointer (some ⟨v0.heap.size, 0, none⟩)) ((((((((v4.setCell ⟨v2.heap.size, 0, none⟩ (.slice oU ns.length cU)).setCell ⟨v0.heap.size, 0, none⟩ (.int .i64 a2.layout)).setCell ⟨v0.heap.size, 1, none⟩ (.int .i64 a2.offset)).setCell ⟨v0.heap.size, 2, none⟩ (.int .i64 a2.length)).setCell ⟨v0.heap.size, 3, none⟩ (.string a2.valid)).setCell ⟨v0.heap.size, 4, none⟩ (.string a2.ends)).setCell ⟨v0.heap.size, 5, none⟩ (.string a2.data)).setCell ⟨v0.heap.size, 6, none⟩ (.slice oA a2.kids.length cA))) := startAll F7 F8 (by omega) (by have := D2.out.size; omega) (by have := D0.out.size; omega) FU FN FA D4.out
            have m7 : v4.cell? ⟨v2.heap.size, 0, none⟩ = some (.slice none 0 0) := by simp [World.cell?, F7]
            have z7 : v4.frozen? ⟨v2.heap.size, 0, none⟩ = false := by simp [World.frozen?, F7]
            have N8 : v0.heap.size ≠ v2.heap.size := by omega
            have D5 : Hid (Below w3.heap.size w3 (v4.setCell ⟨v2.heap.size, 0, none⟩ (.slice oU ns.length cU))) := D4.out.setCell (by have := D2.out.size; exact this) _
            have x5 : Bx (v4.setCell ⟨v2.heap.size, 0, none⟩ (.slice oU ns.length cU)) v0.heap.size nil none 0 := ⟨(Below.heap_setCell _ _ _ _ N8).trans F8.blk⟩
            clear F7 F8 FU FA FN hU hA q7 x8
            refine wpAnyH_ready (rs := [6]) (by kernel_rfl) (by simp) ?_
            refine AllReadyH.cons rfl (fun K hK => ?_) AllReadyH.nil
            go_simp
            generalize v4.setCell ⟨v2.heap.size, 0, none⟩ (.slice oU ns.length cU) = v5 at *
            have K5 : Hid (v5.cell? ⟨w.heap.size, 0, none⟩ = some (.slice a0 ns.length cap0) ∧ v5.cell? ⟨w2.heap.size, 0, none⟩ = some (.int .i64 a2.layout) ∧ v5.cell? ⟨w2.heap.size, 1, none⟩ = some (.int .i64 a2.offset) ∧ v5.cell? ⟨w2.heap.size, 2, none⟩ = some (.int .i64 a2.length) ∧ v5.cell? ⟨w2.heap.size, 3, none⟩ = some (.string a2.valid) ∧ v5.cell? ⟨w2.heap.size, 4, none⟩ = some (.string a2.ends) ∧ v5.cell? ⟨w2.heap.size, 5, none⟩ = some (.string a2.data) ∧ v5.cell? ⟨w2.heap.size, 6, none⟩ = some (.slice oq2 a2.kids.length cq2)) := KLA.out _ D5.out
            refine hK.out _ _ K5.out (fun h5 => ?_)
            clear hK K h4 m7 z7
            try simp only [Act.put, List.setIfInBounds_toArray, List.set_cons_zero, List.set_cons_succ]
            have g0 := x5.c0
            have g1 := x5.c1
            have g2 := x5.c2
            have g3 := x5.c3
            have g4 := x5.c4
            have g5 := x5.c5
            have g6 := x5.c6
            have f0 := x5.fz 0
            have f1 := x5.fz 1
            have f2 := x5.fz 2
            have f3 := x5.fz 3
            have f4 := x5.fz 4
            have f5 := x5.fz 5
            have f6 := x5.fz 6
            refine wpAnyH_ready (rs := [7]) (by kernel_rfl) (by simp) ?_
            refine AllReadyH.cons rfl (fun K hK => ?_) AllReadyH.nil
            go_simp
            obtain ⟨v6, e6, x6, h6, b6⟩ := set7 x5 a2 oA cA
            rw [e6]
            rw [e6] at FZ
            have D6 : Hid (Below w3.heap.size w3 v6) := D5.out.trans (b6 _ (by have := D0.out.size; exact this))
            have K6 : Hid (v6.cell? ⟨w.heap.size, 0, none⟩ = some (.slice a0 ns.length cap0) ∧ v6.cell? ⟨w2.heap.size, 0, none⟩ = some (.int .i64 a2.layout) ∧ v6.cell? ⟨w2.heap.size, 1, none⟩ = some (.int .i64 a2.offset) ∧ v6.cell? ⟨w2.heap.size, 2, none⟩ = some (.int .i64 a2.length) ∧ v6.cell? ⟨w2.heap.size, 3, none⟩ = some (.string a2.valid) ∧ v6.cell? ⟨w2.heap.size, 4, none⟩ = some (.string a2.ends) ∧ v6.cell? ⟨w2.heap.size, 5, none⟩ = some (.string a2.data) ∧ v6.cell? ⟨w2.heap.size, 6, none⟩ = some (.slice oq2 a2.kids.length cq2)) := KLA.out _ D6.out
            refine hK.out _ _ K6.out (fun h7 => ?_)
            clear hK K
            try simp only [Act.put, List.setIfInBounds_toArray, List.set_cons_zero, List.set_cons_succ]
            refine wpAnyH_done (by kernel_rfl) ?_ _
            refine NoPanic.normal ?_
            go_wp2_with fail
            go_meet
            case rel => exact FZ.out
      · go_simp
        obtain ⟨v2, e1, s1, c1, b1⟩ := boxed v1 (.slice none 0 0) 24
        rw [e1]
        have q7 : v2.heap[v1.heap.size]? = some (.cells #[.slice none 0 0] 24) := by rw [← e1]; exact heap_alloc_new _ _
        have D2 : Hid (Below w3.heap.size w3 v2) := bel2 D1.out b1
        have K2 : Hid (v2.cell? ⟨w.heap.size, 0, none⟩ = some (.slice a0 ns.length cap0) ∧ v2.cell? ⟨w2.heap.size, 0, none⟩ = some (.int .i64 a2.layout) ∧ v2.cell? ⟨w2.heap.size, 1, none⟩ = some (.int .i64 a2.offset) ∧ v2.cell? ⟨w2.heap.size, 2, none⟩ = some (.int .i64 a2.length) ∧ v2.cell? ⟨w2.heap.size, 3, none⟩ = some (.string a2.valid) ∧ v2.cell? ⟨w2.heap.size, 4, none⟩ = some (.string a2.ends) ∧ v2.cell? ⟨w2.heap.size, 5, none⟩ = some (.string a2.data) ∧ v2.cell? ⟨w2.heap.size, 6, none⟩ = some (.slice oq2 a2.kids.length cq2)) := KLA.out _ D2.out
        refine hK.out _ _ K2.out (fun h2 => ?_)
        clear hK K h1
        try simp only [Act.put, List.setIfInBounds_toArray, List.set_cons_zero, List.set_cons_succ]
        refine wpAnyH_ready (rs := [1]) (by kernel_rfl) (by simp) ?_
        refine AllReadyH.cons rfl (fun K hK => ?_) AllReadyH.nil
        · go_simp
          go_at_call 7
          refine (HCN.out v2 D2.out).mono ?_
          rintro e v3 ⟨oU, cU, rfl, hU, b2⟩
          have s2 := b2.size
          have D3 : Hid (Below w3.heap.size w3 v3) := bel2 D2.out b2
          have K3 : Hid (v3.cell? ⟨w.heap.size, 0, none⟩ = some (.slice a0 ns.length cap0) ∧ v3.cell? ⟨w2.heap.size, 0, none⟩ = some (.int .i64 a2.layout) ∧ v3.cell? ⟨w2.heap.size, 1, none⟩ = some (.int .i64 a2.offset) ∧ v3.cell? ⟨w2.heap.size, 2, none⟩ = some (.int .i64 a2.length) ∧ v3.cell? ⟨w2.heap.size, 3, none⟩ = some (.string a2.valid) ∧ v3.cell? ⟨w2.heap.size, 4, none⟩ = some (.string a2.ends) ∧ v3.cell? ⟨w2.heap.size, 5, none⟩ = some (.string a2.data) ∧ v3.cell? ⟨w2.heap.size, 6, none⟩ = some (.slice oq2 a2.kids.length cq2)) := KLA.out _ D3.out
          refine hK.out _ _ K3.out (fun h3 => ?_)
          clear hK K h2
          try simp only [Act.put, List.setIfInBounds_toArray, List.set_cons_zero, List.set_cons_succ]
          refine wpAnyH_ready (rs := [3]) (by kernel_rfl) (by simp) ?_
          refine AllReadyH.cons rfl (fun K hK => ?_) AllReadyH.nil
          · go_simp
            go_at_call 8
            refine (HCA.out v3 D3.out).mono ?_
            rintro e v4 ⟨oA, cA, rfl, hA, b3⟩
            have s3 := b3.size
            have D4 : Hid (Below w3.heap.size w3 v4) := bel2 D3.out b3
            have K4 : Hid (v4.cell? ⟨w.heap.size, 0, none⟩ = some (.slice a0 ns.length cap0) ∧ v4.cell? ⟨w2.heap.size, 0, none⟩ = some (.int .i64 a2.layout) ∧ v4.cell? ⟨w2.heap.size, 1, none⟩ = some (.int .i64 a2.offset) ∧ v4.cell? ⟨w2.heap.size, 2, none⟩ = some (.int .i64 a2.length) ∧ v4.cell? ⟨w2.heap.size, 3, none⟩ = some (.string a2.valid) ∧ v4.cell? ⟨w2.heap.size, 4, none⟩ = some (.string a2.ends) ∧ v4.cell? ⟨w2.heap.size, 5, none⟩ = some (.string a2.data) ∧ v4.cell? ⟨w2.heap.size, 6, none⟩ = some (.slice oq2 a2.kids.length cq2)) := KLA.out _ D4.out
            refine hK.out _ _ K4.out (fun h4 => ?_)
            clear hK K h3
            try simp only [Act.put, List.setIfInBounds_toArray, List.set_cons_zero, List.set_cons_succ]
            have F7 := blk_later q7 (bel2 b2 b3)
            have F8 := x8.later (bel2 b1 (bel2 b2 b3))
            have FU := ownsRow_grown hU b3
            have FA : HoldsO 140737488351232 v4 (fq2 + 1) (fun b => b ≠ v1.heap.size ∧ b ≠ v0.heap.size) (a2.cells oA cA) a2 := hA.lt.stays (fun b hb => Below.block (show Below v4.heap.size v4 v4 from (Below.refl _ _)) b hb.2) (fun b hb => by have h1 := hb.1; have h2 := hb.2; constructor <;> omega)
            have FN : ∀ g, (Value.slice oU ns.length cU).ownBlock = some g → g ≠ v1.heap.size ∧ g ≠ v0.heap.size := fun g hg => by have h1 := (hU.lt g hg).1; have h2 := (hU.lt g hg).2; constructor <;> omega
            have FZ : Hid (Start w3 ns a2 fq2 (.pointer (some ⟨v1.heap.size, 0, none⟩)) (.pointer (some ⟨v0.heap.size, 0, none⟩)) ((((((((v4.setCell ⟨v1.heap.size, 0, none⟩ (.slice oU ns.length cU)).setCell ⟨v0.heap.size, 0, none⟩ (.int .i64 a2.layout)).setCell ⟨v0.heap.size, 1, none⟩ (.int .i64 a2.offset)).setCell ⟨v0.heap.size, 2, none⟩ (.int .i64 a2.length)).setCell ⟨v0.heap.size, 3, none⟩ (.string a2.valid)).setCell ⟨v0.heap.size, 4, none⟩ (.string a2.ends)).setCell ⟨v0.heap.size, 5, none⟩ (.string a2.data)).setCell ⟨v0.heap.size, 6, none⟩ (.slice oA a2.kids.length cA))) := startAll F7 F8 (by omega) (by have := D1.out.size; omega) (by have := D0.out.size; omega) FU FN FA D4.out
            have m7 : v4.cell? ⟨v1.heap.size, 0, none⟩ = some (.slice none 0 0) := by simp [World.cell?, F7]
            have z7 : v4.frozen? ⟨v1.heap.size, 0, none⟩ = false := by simp [World.frozen?, F7]
            have N8 : v0.heap.size ≠ v1.heap.size := by omega
            have D5 : Hid (Below w3.heap.size w3 (v4.setCell ⟨v1.heap.size, 0, none⟩ (.slice oU ns.length cU))) := D4.out.setCell (by have := D1.out.size; exact this) _
            have x5 : Bx (v4.setCell ⟨v1.heap.size, 0, none⟩ (.slice oU ns.length cU)) v0.heap.size nil none 0 := ⟨(Below.heap_setCell _ _ _ _ N8).trans F8.blk⟩
            clear F7 F8 FU FA FN hU hA q7 x8
            refine wpAnyH_ready (rs := [6]) (by kernel_rfl) (by simp) ?_
            refine AllReadyH.cons rfl (fun K hK => ?_) AllReadyH.nil
            go_simp
            generalize v4.setCell ⟨v1.heap.size, 0, none⟩ (.slice oU ns.length cU) = v5 at *
            have K5 : Hid (v5.cell? ⟨w.heap.size, 0, none⟩ = some (.slice a0 ns.length cap0) ∧ v5.cell? ⟨w2.heap.size, 0, none⟩ = some (.int .i64 a2.layout) ∧ v5.cell? ⟨w2.heap.size, 1, none⟩ = some (.int .i64 a2.offset) ∧ v5.cell? ⟨w2.heap.size, 2, none⟩ = some (.int .i64 a2.length) ∧ v5.cell? ⟨w2.heap.size, 3, none⟩ = some (.string a2.valid) ∧ v5.cell? ⟨w2.heap.size, 4, none⟩ = some (.string a2.ends) ∧ v5.cell? ⟨w2.heap.size, 5, none⟩ = some (.string a2.data) ∧ v5.cell? ⟨w2.heap.size, 6, none⟩ = some (.slice oq2 a2.kids.length cq2)) := KLA.out _ D5.out
            refine hK.out _ _ K5.out (fun h5 => ?_)
            clear hK K h4 m7 z7
            try simp only [Act.put, List.setIfInBounds_toArray, List.set_cons_zero, List.set_cons_succ]
            have g0 := x5.c0
            have g1 := x5.c1
            have g2 := x5.c2
            have g3 := x5.c3
            have g4 := x5.c4
            have g5 := x5.c5
            have g6 := x5.c6
            have f0 := x5.fz 0
            have f1 := x5.fz 1
            have f2 := x5.fz 2
            have f3 := x5.fz 3
            have f4 := x5.fz 4
            have f5 := x5.fz 5
            have f6 := x5.fz 6
            refine wpAnyH_ready (rs := [7]) (by kernel_rfl) (by simp) ?_
            refine AllReadyH.cons rfl (fun K hK => ?_) AllReadyH.nil
            go_simp
            obtain ⟨v6, e6, x6, h6, b6⟩ := set7 x5 a2 oA cA
            rw [e6]
            rw [e6] at FZ
            have D6 : Hid (Below w3.heap.size w3 v6) := D5.out.trans (b6 _ (by have := D0.out.size; exact this))
            have K6 : Hid (v6.cell? ⟨w.heap.size, 0, none⟩ = some (.slice a0 ns.length cap0) ∧ v6.cell? ⟨w2.heap.size, 0, none⟩ = some (.int .i64 a2.layout) ∧ v6.cell? ⟨w2.heap.size, 1, none⟩ = some (.int .i64 a2.offset) ∧ v6.cell? ⟨w2.heap.size, 2, none⟩ = some (.int .i64 a2.length) ∧ v6.cell? ⟨w2.heap.size, 3, none⟩ = some (.string a2.valid) ∧ v6.cell? ⟨w2.heap.size, 4, none⟩ = some (.string a2.ends) ∧ v6.cell? ⟨w2.heap.size, 5, none⟩ = some (.string a2.data) ∧ v6.cell? ⟨w2.heap.size, 6, none⟩ = some (.slice oq2 a2.kids.length cq2)) := KLA.out _ D6.out
            refine hK.out _ _ K6.out (fun h7 => ?_)
            clear hK K
            try simp only [Act.put, List.setIfInBounds_toArray, List.set_cons_zero, List.set_cons_succ]
            refine wpAnyH_done (by kernel_rfl) ?_ _
            refine NoPanic.normal ?_
            go_wp2_with fail
            go_meet
            case rel => exact FZ.out
  case rest =>
    obtain ⟨p7, p8, oU, cU, o', c', rfl, rfl, hc7, hU, hx8, hA, hb⟩ := hcut
    have BC : Hid (Below w3.heap.size w3 wc) := hb
    have BWC : Hid (Below w.heap.size w wc) := bel2 B3.out hb
    have HM : Hid (∀ v, Below wc.heap.size wc v → Calls Try.prog 9 #[.agg #[.slice oU ns.length cU], .int .i64 a1, a2.val o' c'] v fun r w' => r = .returned (.bool (mayZ ns a1 (fq2 + 1) a2)) ∧ Below v.heap.size v w') := fun v hv => mayA (upB 140737488351232) 96 (fq2 + 1) ns oU cU a1 a2 o' c' v (hU.later hv) (hA.later hv)
    have HR : Hid (∀ v, Below wc.heap.size wc v → Calls Try.prog 10 #[.agg #[.slice a0 ns.length cap0], .int .i64 a1, a2.val oq2 cq2] v fun r w' => r = .returned (.bool (mayZ ns a1 (fq2 + 1) a2)) ∧ Below v.heap.size v w') := fun v hv => refA 140737488351232 96 (fq2 + 1) ns a0 cap0 a1 a2 oq2 cq2 v (HT.out.later (bel2 BWC.out hv)) (HH.out.later (bel2 BWC.out hv))
    have HST : Hid (∀ v, Below wc.heap.size wc v → Calls Try.prog 11 #[.agg #[.slice oU ns.length cU], .agg #[.slice a0 ns.length cap0]] v fun r w' => r = .returned (.bool true) ∧ Below v.heap.size v w') := fun v hv => sameType oU a0 cU cap0 ns v (hU.later hv) (HT.out.later (bel2 BWC.out hv))
    have HSA : Hid (∀ v, Below wc.heap.size wc v → Calls Try.prog 12 #[a2.val o' c', a2.val oq2 cq2] v fun r w' => r = .returned (.bool true) ∧ Below v.heap.size v w') := fun v hv => sameA (upB 140737488351232) 96 (fq2 + 1) a2 o' c' oq2 cq2 v (hA.later hv) (HoldsF.up (by unfold upB; omega) (HH.out.later (bel2 BWC.out hv)))
    have HAW : Hid (∀ v, Calls Try.prog 13 #[] v fun r w' => r = .returned (.bool true) ∧ Below v.heap.size v w') := fun v => awake v
    have tU : ∀ s : BW wc, s.w.cell? ⟨p7, 0, none⟩ = some (.slice oU ns.length cU) := fun s => cell_later s.ok hc7
    have tT : ∀ s : BW wc, s.w.cell? ⟨w.heap.size, 0, none⟩ = some (.slice a0 ns.length cap0) := fun s => cell_later (bel2 BC.out s.ok) C3.out
    have CA := hx8.cells
    have k0 := CA.d0
    have k1 := CA.d1
    have k2 := CA.d2
    have k3 := CA.d3
    have k4 := CA.d4
    have k5 := CA.d5
    have k6 := CA.d6
    have CB := (X3.out.later BC.out).cells
    have m0 := CB.d0
    have m1 := CB.d1
    have m2 := CB.d2
    have m3 := CB.d3
    have m4 := CB.d4
    have m5 := CB.d5
    have m6 := CB.d6
    have hne := BW.some wc
    unfold Arr.val at HM HR HSA
    clear CA CB hc7 hU hx8 hA hb HCA HCN KLA KR HH
    generalize mayZ ns a1 (fq2 + 1) a2 = M at *
    go_wp2_with fail
    cases M
    all_goals
      refine region_in (C := fun w' => ∃ s : BW wc, w' = s.w) (by kernel_rfl) (by kernel_rfl) ⟨⟨wc.drew, (Below.refl _ _).drew⟩, rfl⟩ ?_
      repeat (go_big_quiet_step (first
        | (go_at_call 9; rename_i s; refine (HM.out s.w s.ok).mono ?_; rintro e wx ⟨rfl, hbx⟩; exact ⟨rfl, ⟨wx, bel2 s.ok hbx⟩, rfl⟩)
        | (go_at_call 10; rename_i s; refine (HR.out s.w s.ok).mono ?_; rintro e wx ⟨rfl, hbx⟩; exact ⟨rfl, ⟨wx, bel2 s.ok hbx⟩, rfl⟩)
        | (go_at_call 11; rename_i s; refine (HST.out s.w s.ok).mono ?_; rintro e wx ⟨rfl, hbx⟩; exact ⟨rfl, ⟨wx, bel2 s.ok hbx⟩, rfl⟩)
        | (go_at_call 12; rename_i s; refine (HSA.out s.w s.ok).mono ?_; rintro e wx ⟨rfl, hbx⟩; exact ⟨rfl, ⟨wx, bel2 s.ok hbx⟩, rfl⟩)
        | (go_at_call 13; rename_i s; refine (HAW.out s.w).mono ?_; rintro e wx ⟨rfl, hbx⟩; exact ⟨rfl, ⟨wx, bel2 s.ok hbx⟩, rfl⟩)))
      refine wpQuiet_nil ?_
      intro _ hw'
      obtain ⟨s, hw''⟩ := hw'
      subst hw''
      have HE : Hid (Below w.heap.size w s.w) := bel2 BWC.out s.ok
      clear hne tU tT k0 k1 k2 k3 k4 k5 k6 m0 m1 m2 m3 m4 m5 m6
      go_wp2
      go_ret
      exact ⟨rfl, HE.out⟩

set_option maxRecDepth 100000 in
theorem lifted (os : Os) (started : os.Started) (H : Type) (enc : TypeId × Value → H) :
    ReturnsInHanded {} Try.checked os 3 .any (Rows.arraysSpec.pre6 enc Try.prog Try.f3 Rows.arraysRow.domain false) (Rows.arraysSpec.post enc Try.prog Try.f3 false true false false) := by
  refine returnsInHanded_of_change_sized (C := Try.checked) own started (by kernel_rfl) Try.func3
    (ChangeSpec.witness6 (enc := enc) (C := Try.checked) false ⟨#[], #[.agg #[.slice none 0 0], .int .i64 0, .agg #[.int .i64 0, .int .i64 0, .int .i64 0, .string ByteArray.empty, .string ByteArray.empty, .string ByteArray.empty, .slice none 0 0]], []⟩ 8 (by kernel_rfl) (by kernel_rfl) (by kernel_rfl) (by kernel_rfl)) ?_
  intro W base args ds gs before hval0 hW hcnd hsz0 _
  have hsz : (DataW.weightsEach Try.prog (Try.f3.params.toList ++ Rows.arraysSpec.plain.varTypes Try.prog) (ds ++ gs)).all (· ≤ reachBytes) = true := hsz0
  clear hsz0
  have hval : ∀ (j : Nat) t v, Try.f3.params[j]? = some t → args[j]? = some v → Value.okWide Try.prog W .any base t v := hval0
  have hW' := hW
  obtain ⟨p, q, hA0, hV, rfl, hfz, hnd⟩ := hW
  have hA : DataW.TrodAll enc Try.prog W 0 (fun _ => true) true Try.f3.params.toList args.toList ds p := hA0
  rw [Try.params3] at hA hval hsz
  obtain ⟨v0, vs0, d0, ds0, p0, q0, hargs, rfl, rfl, h0, r0⟩ := trodAll_cons hA
  obtain ⟨v1, vs1, d1, ds1, p1, q1, rfl, rfl, rfl, h1, r1⟩ := trodAll_cons r0
  obtain ⟨v2, vs2, d2, ds2, p2, q2, rfl, rfl, rfl, h2, r2⟩ := trodAll_cons r1
  obtain ⟨rfl, rfl, rfl⟩ := trodAll_nil r2
  obtain rfl : args = #[v0, v1, v2] := by cases args; simp_all
  obtain ⟨rfl, rfl⟩ := trodVars_none hV
  have k0 := h0
  have lt0 : ∀ x ∈ p0, x.block < W.heap.size := by obtain ⟨m, hm⟩ := k0; exact DataW.trod_lt m _ _ _ hm
  obtain ⟨a0, len0, cap0, z0, rfl, hp0, y0, dy0, hy0⟩ := Tree.open_type Try.underlying24 rfl rfl (by kernel_rfl) (by kernel_rfl) Try.underlying22 Try.underlying35 (by kernel_rfl) rfl rfl rfl (by kernel_rfl) (by kernel_rfl) (by kernel_rfl) Try.underlying3 Try.underlying3 Try.underlying4 (hval 0 24 v0 rfl rfl) h0
  have hs0 : cap0 * 24 ≤ 140737488351232 := by
    have := Tree.sized_type hsz (j := 0) rfl (congrArg some dy0) Try.underlying24 Try.underlying22 hy0
    rw [show Try.prog.bytesOf 35 = 24 from by kernel_rfl] at this
    unfold reachBytes at this
    omega
  obtain ⟨a1, rfl, rfl, rfl, hp1⟩ := open_int Try.underlying3 (hval 1 3 v1 rfl rfl) h1
  have k2 := h2
  have lt2 : ∀ x ∈ p2, x.block < W.heap.size := by obtain ⟨m, hm⟩ := k2; exact DataW.trod_lt m _ _ _ hm
  obtain ⟨fq2, a2, oq2, cq2, rfl, hp2⟩ := Arr.open_array (P := Try.prog) (T := 27) (S := 25) ⟨Try.underlying27, Try.underlying25, rfl, (by kernel_rfl), rfl, rfl, rfl, rfl, rfl, rfl, rfl, (by kernel_rfl), (by kernel_rfl), (by kernel_rfl), (by kernel_rfl), (by kernel_rfl), (by kernel_rfl), (by kernel_rfl), Try.underlying3, Try.underlying3, Try.underlying3, Try.underlying9, Try.underlying9, Try.underlying9⟩ (hval 2 27 v2 rfl rfl) h2 (Arr.sized_array hsz (j := 2) rfl rfl)
  rw [show Try.prog.bytesOf 27 = 96 from by kernel_rfl] at hp2
  clear hA0 hval0
  refine (walk a0 len0 cap0 z0 a1 fq2 a2 oq2 cq2 W hp0 hs0 hp1 hp2).mono fun e W' ⟨he, bel⟩ => ?_
  subst he
  exact ⟨_, rfl, _, _, _, [], _, [], hW', trodAll_mk1 (shut_bool Try.underlying4 _), (trodAll_cons_mk (Below.trod laidOut (by kernel_rfl) (of_decide_eq_true (by kernel_rfl)) k0 bel lt0) (trodAll_cons_mk (shut_int Try.underlying3 hp1) (trodAll_cons_mk (Below.trod laidOut (by kernel_rfl) (of_decide_eq_true (by kernel_rfl)) k2 bel lt2) trodAll_mk0))), rfl, bel.frame _, fun h => by cases h⟩

theorem over : Rows.arraysRow.holds Try.pinned (OpenSpec.ofChange Rows.arraysSpec) :=
  OpenClaim.holds_of_wide 3 Try.f3 rfl rfl rfl rfl rfl rfl rfl ⟨rfl, rfl, rfl, rfl, rfl⟩ rfl rfl rfl rfl rfl (by kernel_rfl) Try.func3 (by kernel_rfl)
    (of_decide_eq_true (by kernel_rfl)) (by unfold Func.isWrapper; first | (rw [if_pos (by decide +kernel)]; kernel_rfl) | (rw [if_neg (by decide +kernel)]; exact ⟨rfl, rfl⟩))
    (fun os started H enc _ => lifted os started H enc)

end Go.Proofs.Ytbekelnhlfghlaa.arrays
namespace Go.Proofs.Ytbekelnhlfghlaa
theorem arrays_holds : Rows.ArraysSaid := arrays.over
#print axioms arrays_holds
end Go.Proofs.Ytbekelnhlfghlaa
