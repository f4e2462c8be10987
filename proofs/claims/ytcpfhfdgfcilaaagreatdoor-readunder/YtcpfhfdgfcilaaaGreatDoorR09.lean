/-
  Several texts in one: Whether an array may be, behind its head: May: contract. · Whether an array may be: May, of any array: contract. · The document's own small questions of an array: bare, there, mayEnds: contracts. · What the document's own functions over types compute: contracts. · The document's plainMay: contract.
-/
import Derived.Test.YtcpfhfdgfcilaaaGreatDoorR08
import Derived.Test.YtcpfhfdgfcilaaaGreatDoorProg
import GoSem.Claim
import GoSem.ClaimJoined
import GoSem.ClaimMapViews
import Derived.JoinedTies
import Derived.KernelRfl
import Derived.RowKit
import Derived.Test.YtcpfhfdgfcilaaaGreatDoorR01
import Derived.Test.YtcpfhfdgfcilaaaGreatDoorR02
import Derived.WalkKit
import Derived.ProofKit
import Derived.OpenShut
import Derived.Below
import Derived.RegionTactic
import Derived.ChangeAlike
import Derived.OwnWalk
namespace Go.Proofs.YtcpfhfdgfcilaaaGreatDoor.Arr
open Go.ChangeShapes Go.WideShapes Go.ChangeAt Go.RowKit
open Tree Val

/-- An operation taken first, where its result lies told. -/
theorem take_at {P : Program} {ops : Array Oper} {Q : Exit → Act → World → Prop} {md : Region.Mode} {S : World → Prop} {i : Nat} {oi : Oper} {v : Value} {fuel : Nat} {listed : Array Bool} {a : Act} {w : World} {d : Option Nat} (hi : ops[i]? = some oi) (hd : oi.dst = d)
    (hs : Region.noSelect ops = true) (hf : Region.free md ops listed i = true) (hr : (Region.ready md ops listed).contains i = true)
    (hQ : ∀ c a w, Q (.panic c) (a.put oi.dst v) w → Q (.panic c) a w) (hy : YieldsIf P ops S oi v a) (hS : S w)
    (h : wpAnyH P md ops Q S fuel (listed.setIfInBounds i true) (a.put d v) w) : wpAnyH P md ops Q S (fuel + 1) listed a w := by
  subst hd
  exact wpAnyH_take hi hs hf hr hQ hy hS h
set_option linter.unusedSimpArgs false in
set_option maxRecDepth 20000 in
set_option maxHeartbeats 6400000 in
theorem may_short (B bytes f : Nat) (ns : List Nd) (oT : Option Addr) (capT n : Nat) (a : Arr) (o : Option Addr) (cap : Nat) (w : World) (ht : IsT w oT ns) (hn : n < ns.length) (hm : may ns = true) (hH : Hid (HoldsF B bytes w (f + 1) (a.cells o cap) a)) (h0 : hasRowsB a = true) (h1 : shortsOf a.valid a.ends a.data = false) :
    Calls Tryz.prog 44 #[.agg #[.slice oT ns.length capT], .int .i64 (n : Int), a.val o cap] w fun r w' => r = .returned (.bool false) ∧ Below w.heap.size w w' := by
  obtain ⟨w1, e1, s1, c1, b1⟩ := boxed w (.slice oT ns.length capT) 24
  obtain ⟨w2, e2, x2, b2, z2⟩ := box7 w1 a o cap
  obtain ⟨x, rfl, hl⟩ := ht.some (by omega)
  have hB : hasB ns (n : Int) = true := by unfold hasB; rw [hm, decide_eq_true (by omega)]; rfl
  have hKA : kidsA ns (n : Int) = kids ns n := by unfold kidsA; rw [if_pos hB]
  have B2 : Hid (Below w.heap.size w w2) := bel2 b1 b2
  have cT := cell_later b2 c1
  have HK : Hid (Calls Tryz.prog 69 #[.agg #[.slice (some x) ns.length capT], .int .i64 (n : Int)] w2 fun r w' => ∃ o c, r = .returned (.tuple #[.slice o (kids ns n).length c, .int .i64 0]) ∧ w'.ownsRow w2.heap.size 3 1 (.slice o (kids ns n).length c) (kids ns n).length (ints (kids ns n)) ∧ Below w2.heap.size w2 w') := by
    have := kidsP (some x) capT ns (n : Int) w2 (ht.later B2.out)
    rw [hB, hKA] at this
    exact this
  have HO : Hid (a.offset ≤ 9223372036854775807) := by have := (hH.out.ok').1.offset; simp [Lit.wf] at this; unfold Hid; omega
  have HH : Hid (∀ v, Calls Tryz.prog 70 #[a.val o cap] v fun r w' => r = .returned (.bool (hasRowsB a)) ∧ Below v.heap.size v w') := fun v => hasRows a o cap HO.out v
  have X2 : Hid (Bx w2 w1.heap.size a o cap) := x2
  have HT : Hid (IsT w (some x) ns) := ht
  have HLI : Hid (Lies w x ns) := hl
  have HCT : Hid (w2.cell? ⟨w.heap.size, 0, none⟩ = some (.slice (some x) ns.length capT)) := cT
  clear s1 c1 b1 b2 x2 z2 hB hKA ht hl
  rw [h0] at HH
  have HSH : Hid (shortsOf a.valid a.ends a.data = false) := h1
  unfold Arr.val at HH ⊢
  go_enter Tryz.func44, Tryz.ntmps44
  go_wp2_with fail
  refine HK.out.mono ?_
  rintro e w3 ⟨oK, cK, rfl, hown, b3⟩
  have B3 : Hid (Below w2.heap.size w2 w3) := b3
  have HIK : Hid (IsI w3 w2.heap.size oK (kids ns n)) := own_ints hown
  have X3 : Hid (Bx w3 w1.heap.size a o cap) := X2.out.later b3
  have HC3 : Hid (w3.cell? ⟨w.heap.size, 0, none⟩ = some (.slice (some x) ns.length capT)) := cell_later b3 HCT.out
  have HL3 : Hid (Lies w3 x ns) := HLI.out.later (bel2 B2.out b3)
  clear b3 e1 e2 cT hown
  have KLA : Hid (∀ W W', (fun W : World => W.cell? ⟨w.heap.size, 0, none⟩ = some (.slice (some x) ns.length capT) ∧ W.cell? ⟨w1.heap.size, 0, none⟩ = some (.int .i64 a.layout) ∧ W.cell? ⟨w1.heap.size, 1, none⟩ = some (.int .i64 a.offset) ∧ W.cell? ⟨w1.heap.size, 2, none⟩ = some (.int .i64 a.length) ∧ W.cell? ⟨w1.heap.size, 3, none⟩ = some (.string a.valid) ∧ W.cell? ⟨w1.heap.size, 4, none⟩ = some (.string a.ends) ∧ W.cell? ⟨w1.heap.size, 5, none⟩ = some (.string a.data) ∧ W.cell? ⟨w1.heap.size, 6, none⟩ = some (.slice o a.kids.length cap) ∧ W.cell? (x.add (n * 3)) = some (.int .i64 (nd ns n).kind) ∧ W.cell? { block := (x.add (n * 3)).block, off := (x.add (n * 3)).off + 1 } = some (.int .i64 (nd ns n).par) ∧ W.cell? { block := (x.add (n * 3)).block, off := (x.add (n * 3)).off + 2 } = some (.bool (nd ns n).null)) W → Below W.heap.size W W' → (fun W : World => W.cell? ⟨w.heap.size, 0, none⟩ = some (.slice (some x) ns.length capT) ∧ W.cell? ⟨w1.heap.size, 0, none⟩ = some (.int .i64 a.layout) ∧ W.cell? ⟨w1.heap.size, 1, none⟩ = some (.int .i64 a.offset) ∧ W.cell? ⟨w1.heap.size, 2, none⟩ = some (.int .i64 a.length) ∧ W.cell? ⟨w1.heap.size, 3, none⟩ = some (.string a.valid) ∧ W.cell? ⟨w1.heap.size, 4, none⟩ = some (.string a.ends) ∧ W.cell? ⟨w1.heap.size, 5, none⟩ = some (.string a.data) ∧ W.cell? ⟨w1.heap.size, 6, none⟩ = some (.slice o a.kids.length cap) ∧ W.cell? (x.add (n * 3)) = some (.int .i64 (nd ns n).kind) ∧ W.cell? { block := (x.add (n * 3)).block, off := (x.add (n * 3)).off + 1 } = some (.int .i64 (nd ns n).par) ∧ W.cell? { block := (x.add (n * 3)).block, off := (x.add (n * 3)).off + 2 } = some (.bool (nd ns n).null)) W') := by
    intro W W'
    rintro ⟨p0, p1, p2, p3, p4, p5, p6, p7, p8, p9, p10⟩ hb
    exact ⟨cell_later hb p0, cell_later hb p1, cell_later hb p2, cell_later hb p3, cell_later hb p4, cell_later hb p5, cell_later hb p6, cell_later hb p7, cell_later hb p8, cell_later hb p9, cell_later hb p10⟩
  have K3 : Hid ((fun W : World => W.cell? ⟨w.heap.size, 0, none⟩ = some (.slice (some x) ns.length capT) ∧ W.cell? ⟨w1.heap.size, 0, none⟩ = some (.int .i64 a.layout) ∧ W.cell? ⟨w1.heap.size, 1, none⟩ = some (.int .i64 a.offset) ∧ W.cell? ⟨w1.heap.size, 2, none⟩ = some (.int .i64 a.length) ∧ W.cell? ⟨w1.heap.size, 3, none⟩ = some (.string a.valid) ∧ W.cell? ⟨w1.heap.size, 4, none⟩ = some (.string a.ends) ∧ W.cell? ⟨w1.heap.size, 5, none⟩ = some (.string a.data) ∧ W.cell? ⟨w1.heap.size, 6, none⟩ = some (.slice o a.kids.length cap) ∧ W.cell? (x.add (n * 3)) = some (.int .i64 (nd ns n).kind) ∧ W.cell? { block := (x.add (n * 3)).block, off := (x.add (n * 3)).off + 1 } = some (.int .i64 (nd ns n).par) ∧ W.cell? { block := (x.add (n * 3)).block, off := (x.add (n * 3)).off + 2 } = some (.bool (nd ns n).null)) w3.drew) := KLA.out w3 _ ⟨HC3.out, X3.out.c0, X3.out.c1, X3.out.c2, X3.out.c3, X3.out.c4, X3.out.c5, X3.out.c6, HL3.out.kind' n hn, HL3.out.par' n hn, HL3.out.null' n hn⟩ (drewN_below w3 1)
  have j0 : (0 : Int) ≤ (n : Int) := Int.natCast_nonneg _
  have j1 : (n : Int) < (ns.length : Int) := by omega
  clear hH HK h0 h1
  go_wp2_with fail
  refine wp_region_noPanic ?_
  refine wp_region_held_drew (S := fun W : World => W.cell? ⟨w.heap.size, 0, none⟩ = some (.slice (some x) ns.length capT) ∧ W.cell? ⟨w1.heap.size, 0, none⟩ = some (.int .i64 a.layout) ∧ W.cell? ⟨w1.heap.size, 1, none⟩ = some (.int .i64 a.offset) ∧ W.cell? ⟨w1.heap.size, 2, none⟩ = some (.int .i64 a.length) ∧ W.cell? ⟨w1.heap.size, 3, none⟩ = some (.string a.valid) ∧ W.cell? ⟨w1.heap.size, 4, none⟩ = some (.string a.ends) ∧ W.cell? ⟨w1.heap.size, 5, none⟩ = some (.string a.data) ∧ W.cell? ⟨w1.heap.size, 6, none⟩ = some (.slice o a.kids.length cap) ∧ W.cell? (x.add (n * 3)) = some (.int .i64 (nd ns n).kind) ∧ W.cell? { block := (x.add (n * 3)).block, off := (x.add (n * 3)).off + 1 } = some (.int .i64 (nd ns n).par) ∧ W.cell? { block := (x.add (n * 3)).block, off := (x.add (n * 3)).off + 2 } = some (.bool (nd ns n).null)) (by kernel_rfl) K3.out (fun h3 => ?_)
  refine take_at (i := 0) (d := some 15) (v := ?v0) rfl rfl (by kernel_rfl) (by kernel_rfl) (by kernel_rfl) (fun _ _ _ h => h) (Or.inl ⟨by rfl, ?y0⟩) h3 ?r0
  case y0 => (intro w' hSw; (try dsimp only at hSw); go_simp; try with_reducible rfl)
  try simp only [Act.put, List.setIfInBounds_toArray, List.set_cons_zero, List.set_cons_succ]
  refine take_at (i := 1) (d := some 16) (v := ?v1) rfl rfl (by kernel_rfl) (by kernel_rfl) (by kernel_rfl) (fun _ _ _ h => h) (Or.inl ⟨by rfl, ?y1⟩) h3 ?r1
  case y1 => (intro w' hSw; (try dsimp only at hSw); go_simp; try with_reducible rfl)
  try simp only [Act.put, List.setIfInBounds_toArray, List.set_cons_zero, List.set_cons_succ]
  refine take_at (i := 2) (d := some 17) (v := ?v2) rfl rfl (by kernel_rfl) (by kernel_rfl) (by kernel_rfl) (fun _ _ _ h => h) (Or.inl ⟨by rfl, ?y2⟩) h3 ?r2
  case y2 => (intro w' hSw; (try dsimp only at hSw); go_simp; try with_reducible rfl)
  try simp only [Act.put, List.setIfInBounds_toArray, List.set_cons_zero, List.set_cons_succ]
  refine take_at (i := 3) (d := some 18) (v := ?v3) rfl rfl (by kernel_rfl) (by kernel_rfl) (by kernel_rfl) (fun _ _ _ h => h) (Or.inl ⟨by rfl, ?y3⟩) h3 ?r3
  case y3 => (intro w' hSw; (try dsimp only at hSw); go_simp; try with_reducible rfl)
  try simp only [Act.put, List.setIfInBounds_toArray, List.set_cons_zero, List.set_cons_succ]
  refine wpAnyH_ready (rs := [4]) (by kernel_rfl) (by simp) ?_
  refine AllReadyH.cons rfl (fun K hK => ?_) AllReadyH.nil
  go_simp
  go_at_call 70
  refine (HH.out _).mono ?_
  rintro e w4 ⟨rfl, b4⟩
  have K4 : Hid _ := KLA.out _ _ K3.out b4
  have B4 : Hid (Below w3.heap.size w3 w4) := bel2 (drewN_below w3 1) b4
  have ba : Below w4.heap.size w4 (w4.alloc (.cells #[.string a.valid, .string a.ends, .string a.data] 9)) := (Below.refl _ _).alloc (Nat.le_refl _) _
  have BA : Hid _ := bel2 B4.out ba
  have KA : Hid _ := KLA.out _ _ K4.out ba
  clear b4 ba
  refine hK.out _ _ K4.out (fun h4 => ?_)
  clear hK K
  try simp only [Act.put, List.setIfInBounds_toArray, List.set_cons_zero, List.set_cons_succ]
  refine take_at (i := 5) (d := some 20) (v := ?v5) rfl rfl (by kernel_rfl) (by kernel_rfl) (by kernel_rfl) (fun _ _ _ h => h) (Or.inl ⟨by rfl, ?y5⟩) h4 ?r5
  case y5 => (intro w' hSw; (try dsimp only at hSw); go_simp; try with_reducible rfl)
  try simp only [Act.put, List.setIfInBounds_toArray, List.set_cons_zero, List.set_cons_succ]
  refine take_at (i := 6) (d := some 21) (v := ?v6) rfl rfl (by kernel_rfl) (by kernel_rfl) (by kernel_rfl) (fun _ _ _ h => h) (Or.inl ⟨by rfl, ?y6⟩) h4 ?r6
  case y6 => (intro w' hSw; (try dsimp only at hSw); go_simp; try with_reducible rfl)
  try simp only [Act.put, List.setIfInBounds_toArray, List.set_cons_zero, List.set_cons_succ]
  refine take_at (i := 7) (d := some 22) (v := ?v7) rfl rfl (by kernel_rfl) (by kernel_rfl) (by kernel_rfl) (fun _ _ _ h => h) (Or.inl ⟨by rfl, ?y7⟩) h4 ?r7
  case y7 => (intro w' hSw; (try dsimp only at hSw); go_simp; try with_reducible rfl)
  try simp only [Act.put, List.setIfInBounds_toArray, List.set_cons_zero, List.set_cons_succ]
  refine take_at (i := 8) (d := some 23) (v := ?v8) rfl rfl (by kernel_rfl) (by kernel_rfl) (by kernel_rfl) (fun _ _ _ h => h) (Or.inl ⟨by rfl, ?y8⟩) h4 ?r8
  case y8 => (intro w' hSw; (try dsimp only at hSw); go_simp; try with_reducible rfl)
  try simp only [Act.put, List.setIfInBounds_toArray, List.set_cons_zero, List.set_cons_succ]
  refine take_at (i := 9) (d := some 24) (v := ?v9) rfl rfl (by kernel_rfl) (by kernel_rfl) (by kernel_rfl) (fun _ _ _ h => h) (Or.inl ⟨by rfl, ?y9⟩) h4 ?r9
  case y9 => (intro w' hSw; (try dsimp only at hSw); go_simp; try with_reducible rfl)
  try simp only [Act.put, List.setIfInBounds_toArray, List.set_cons_zero, List.set_cons_succ]
  refine take_at (i := 10) (d := some 25) (v := ?v10) rfl rfl (by kernel_rfl) (by kernel_rfl) (by kernel_rfl) (fun _ _ _ h => h) (Or.inl ⟨by rfl, ?y10⟩) h4 ?r10
  case y10 => (intro w' hSw; (try dsimp only at hSw); go_simp; try with_reducible rfl)
  try simp only [Act.put, List.setIfInBounds_toArray, List.set_cons_zero, List.set_cons_succ]
  refine take_at (i := 11) (d := some 26) (v := ?v11) rfl rfl (by kernel_rfl) (by kernel_rfl) (by kernel_rfl) (fun _ _ _ h => h) (Or.inl ⟨by rfl, ?y11⟩) h4 ?r11
  case y11 => (intro w' hSw; (try dsimp only at hSw); go_simp; try with_reducible rfl)
  try simp only [Act.put, List.setIfInBounds_toArray, List.set_cons_zero, List.set_cons_succ]
  refine take_at (i := 12) (d := some 27) (v := ?v12) rfl rfl (by kernel_rfl) (by kernel_rfl) (by kernel_rfl) (fun _ _ _ h => h) (Or.inl ⟨by rfl, ?y12⟩) h4 ?r12
  case y12 => (intro w' hSw; (try dsimp only at hSw); go_simp; try with_reducible rfl)
  try simp only [Act.put, List.setIfInBounds_toArray, List.set_cons_zero, List.set_cons_succ]
  refine take_at (i := 13) (d := some 28) (v := ?v13) rfl rfl (by kernel_rfl) (by kernel_rfl) (by kernel_rfl) (fun _ _ _ h => h) (Or.inl ⟨by rfl, ?y13⟩) h4 ?r13
  case y13 => (intro w' hSw; (try dsimp only at hSw); go_simp; try with_reducible rfl)
  try simp only [Act.put, List.setIfInBounds_toArray, List.set_cons_zero, List.set_cons_succ]
  refine wpAnyH_ready (rs := [14]) (by kernel_rfl) (by simp) ?_
  refine AllReadyH.cons rfl (fun K hK => ?_) AllReadyH.nil
  go_simp
  refine hK.out _ _ KA.out (fun hA => ?_)
  clear hK K
  try simp only [Act.put, List.setIfInBounds_toArray, List.set_cons_zero, List.set_cons_succ]
  refine wpAnyH_ready (rs := [15]) (by kernel_rfl) (by simp) ?_
  refine AllReadyH.cons rfl (fun K hK => ?_) AllReadyH.nil
  go_simp
  go_at_call 71
  refine (areShort _ a.valid a.ends a.data _ (short_box w4 a).1 (short_box w4 a).2.1 (short_box w4 a).2.2).mono ?_
  rintro e wx ⟨rfl, rfl⟩
  rw [HSH.out]
  refine hK.out _ _ KA.out (fun hB => ?_)
  clear hK K
  try simp only [Act.put, List.setIfInBounds_toArray, List.set_cons_zero, List.set_cons_succ]
  refine take_at (i := 16) (d := some 31) (v := ?v16) rfl rfl (by kernel_rfl) (by kernel_rfl) (by kernel_rfl) (fun _ _ _ h => h) (Or.inl ⟨by rfl, ?y16⟩) hB ?r16
  case y16 => (intro w' hSw; (try dsimp only at hSw); go_simp; try with_reducible rfl)
  try simp only [Act.put, List.setIfInBounds_toArray, List.set_cons_zero, List.set_cons_succ]
  refine take_at (i := 17) (d := some 32) (v := ?v17) rfl rfl (by kernel_rfl) (by kernel_rfl) (by kernel_rfl) (fun _ _ _ h => h) (Or.inl ⟨by rfl, ?y17⟩) hB ?r17
  case y17 => (intro w' hSw; (try dsimp only at hSw); go_simp; try with_reducible rfl)
  try simp only [Act.put, List.setIfInBounds_toArray, List.set_cons_zero, List.set_cons_succ]
  refine take_at (i := 18) (d := some 33) (v := ?v18) rfl rfl (by kernel_rfl) (by kernel_rfl) (by kernel_rfl) (fun _ _ _ h => h) (Or.inl ⟨by rfl, ?y18⟩) hB ?r18
  case y18 => (intro w' hSw; (try dsimp only at hSw); go_simp; try with_reducible rfl)
  try simp only [Act.put, List.setIfInBounds_toArray, List.set_cons_zero, List.set_cons_succ]
  refine take_at (i := 19) (d := some 34) (v := undef) rfl rfl (by kernel_rfl) (by kernel_rfl) (by kernel_rfl) (fun _ _ _ h => h) (Or.inr ⟨by rfl, rfl⟩) hB ?r19
  try simp only [Act.put, List.setIfInBounds_toArray, List.set_cons_zero, List.set_cons_succ]
  refine take_at (i := 20) (d := some 35) (v := undef) rfl rfl (by kernel_rfl) (by kernel_rfl) (by kernel_rfl) (fun _ _ _ h => h) (Or.inr ⟨by rfl, rfl⟩) hB ?r20
  try simp only [Act.put, List.setIfInBounds_toArray, List.set_cons_zero, List.set_cons_succ]
  refine take_at (i := 21) (d := some 36) (v := undef) rfl rfl (by kernel_rfl) (by kernel_rfl) (by kernel_rfl) (fun _ _ _ h => h) (Or.inr ⟨by rfl, rfl⟩) hB ?r21
  try simp only [Act.put, List.setIfInBounds_toArray, List.set_cons_zero, List.set_cons_succ]
  refine take_at (i := 22) (d := some 37) (v := undef) rfl rfl (by kernel_rfl) (by kernel_rfl) (by kernel_rfl) (fun _ _ _ h => h) (Or.inr ⟨by rfl, rfl⟩) hB ?r22
  try simp only [Act.put, List.setIfInBounds_toArray, List.set_cons_zero, List.set_cons_succ]
  refine take_at (i := 23) (d := some 38) (v := undef) rfl rfl (by kernel_rfl) (by kernel_rfl) (by kernel_rfl) (fun _ _ _ h => h) (Or.inr ⟨by rfl, rfl⟩) hB ?r23
  try simp only [Act.put, List.setIfInBounds_toArray, List.set_cons_zero, List.set_cons_succ]
  refine take_at (i := 24) (d := some 39) (v := undef) rfl rfl (by kernel_rfl) (by kernel_rfl) (by kernel_rfl) (fun _ _ _ h => h) (Or.inr ⟨by rfl, rfl⟩) hB ?r24
  try simp only [Act.put, List.setIfInBounds_toArray, List.set_cons_zero, List.set_cons_succ]
  refine take_at (i := 25) (d := some 40) (v := undef) rfl rfl (by kernel_rfl) (by kernel_rfl) (by kernel_rfl) (fun _ _ _ h => h) (Or.inr ⟨by rfl, rfl⟩) hB ?r25
  try simp only [Act.put, List.setIfInBounds_toArray, List.set_cons_zero, List.set_cons_succ]
  refine take_at (i := 26) (d := some 41) (v := undef) rfl rfl (by kernel_rfl) (by kernel_rfl) (by kernel_rfl) (fun _ _ _ h => h) (Or.inr ⟨by rfl, rfl⟩) hB ?r26
  try simp only [Act.put, List.setIfInBounds_toArray, List.set_cons_zero, List.set_cons_succ]
  refine take_at (i := 27) (d := some 42) (v := ?v27) rfl rfl (by kernel_rfl) (by kernel_rfl) (by kernel_rfl) (fun _ _ _ h => h) (Or.inl ⟨by rfl, ?y27⟩) hB ?r27
  case y27 => (intro w' hSw; (try dsimp only at hSw); go_simp; try with_reducible rfl)
  try simp only [Act.put, List.setIfInBounds_toArray, List.set_cons_zero, List.set_cons_succ]
  refine wpAnyH_done (by kernel_rfl) ?_ _
  refine NoPanic.normal ?_
  clear K3 K4 KLA KA h3 h4 hA hB
  go_wp2
  go_ret
  exact ⟨rfl, bel2 B2.out (bel2 B3.out BA.out)⟩
end Go.Proofs.YtcpfhfdgfcilaaaGreatDoor.Arr
namespace Go.Proofs.YtcpfhfdgfcilaaaGreatDoor.Arr
open Go.ChangeShapes Go.WideShapes Go.ChangeAt Go.RowKit
open Tree Val

theorem may_step (B bytes f : Nat) (ih : MayC B bytes f) : MayC B bytes (f + 1) := by
  intro ns oT capT at' a o cap w ht hH
  cases hb : hasB ns at'
  · have e : mayZ ns at' (f + 1) a = false := by unfold mayZ; rw [hb]; rfl
    rw [e]
    exact may_no ns oT capT at' a o cap w ht hb
  · obtain ⟨n, rfl, hn, hM⟩ := has_of hb
    have hm : may ns = true := by unfold hasB at hb; rw [Bool.and_eq_true] at hb; exact hb.2
    rw [mayZ_kid hm hn, may_lay hm hn, head_eq]
    cases h0 : hasRowsB a
    · rw [Bool.false_and, Bool.false_and]
      exact may_rows B bytes f ns oT capT n a o cap w ht hn hm hH h0
    rw [Bool.true_and]
    cases h1 : shortsOf a.valid a.ends a.data
    · rw [Bool.false_and, Bool.false_and]
      exact may_short B bytes f ns oT capT n a o cap w ht hn hm hH h0 h1
    rw [Bool.true_and]
    cases h2 : lackB (nd ns n).null a
    · rw [Bool.false_and]
      exact may_lack B bytes f ns oT capT n a o cap w ht hn hm hH h0 h1 h2
    rw [Bool.true_and]
    exact may_yes B bytes f ih ns oT capT n a o cap w ht hn hm hH h0 h1 h2
/-- May, of any array. -/
theorem mayA (B bytes : Nat) : ∀ f, MayC B bytes f := by
  intro f
  induction f with
  | zero => intro ns oT capT at' a o cap w _ hH; cases hH
  | succ f ih => exact may_step B bytes f ih
end Go.Proofs.YtcpfhfdgfcilaaaGreatDoor.Arr
namespace Go.Proofs.YtcpfhfdgfcilaaaGreatDoor.Arr
open Go.ChangeShapes Go.WideShapes Go.ChangeAt Go.RowKit
open Tree Val

end Go.Proofs.YtcpfhfdgfcilaaaGreatDoor.Arr
namespace Go.Proofs.YtcpfhfdgfcilaaaGreatDoor.Tree
open Go.ChangeShapes Go.WideShapes Go.ChangeAt Go.RowKit

/-- What has been counted on the way from a up, when z is asked next. -/
def LevInv (l : List Nd) (a r d : Nat) (z : Int) : Prop :=
  (z = -1 ∧ r = rep l a ∧ d = dfn l a) ∨ ∃ k : Nat, k ≤ a ∧ z = k ∧ r + rep l k = rep l a ∧ d + dfn l k = dfn l a
theorem LevInv.start (l : List Nd) (a : Nat) : LevInv l a 0 0 a := .inr ⟨a, Nat.le_refl _, rfl, by omega, by omega⟩
theorem LevInv.more {l : List Nd} {a k r d : Nat} (hu : Up l a) (h : LevInv l a r d k) : k ≤ a ∧ LevInv l a (r + rep1 (nd l k)) (d + def1 (nd l k)) (nd l k).par ∧ -1 ≤ (nd l k).par ∧ (nd l k).par < k ∧ r ≤ rep l a ∧ d ≤ dfn l a := by
  rcases h with h | ⟨k', h1, h2, h4, h5⟩
  · omega
  obtain rfl : k = k' := by omega
  refine ⟨h1, ?_, ?_⟩
  · by_cases e : k = 0
    · subst e
      rw [rep_first] at h4
      rw [dfn_first] at h5
      exact .inl ⟨hu.first, h4, h5⟩
    · have hp := hu.par k (by omega) h1
      rw [hu.rep_up (by omega) h1] at h4
      rw [hu.dfn_up (by omega) h1] at h5
      exact .inr ⟨(nd l k).par.toNat, by omega, by omega, by omega, by omega⟩
  · by_cases e : k = 0
    · subst e; rw [hu.first]; omega
    · have hp := hu.par k (by omega) h1
      omega
theorem LevInv.done {l : List Nd} {a r d : Nat} {z : Int} (h : LevInv l a r d z) (hz : z < 0) : r = rep l a ∧ d = dfn l a := by
  rcases h with h | ⟨k', h1, h2, h3, h4⟩
  · exact h.2
  · omega
end Go.Proofs.YtcpfhfdgfcilaaaGreatDoor.Tree
namespace Go.Proofs.YtcpfhfdgfcilaaaGreatDoor.Arr
open Go.ChangeShapes Go.WideShapes Go.ChangeAt Go.RowKit
open Tree Val

end Go.Proofs.YtcpfhfdgfcilaaaGreatDoor.Arr
