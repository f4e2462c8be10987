/-
  Several texts in one: Whether a plain array of a list, of a struct may be; isPlain of any node: contracts. · The plain array that another layout stands on: base: contract. · Arrays by a dictionary: isDict: contract. · Arrays by runs: isRun: contract. · Whether an array may be: May: contract.
-/
import Derived.Test.YthbjeedmhgnnaaaGreatB07
import Derived.Deep.RegionHeld3
import Derived.Laws.AppendOwnNone
import Derived.OwnWalk
import Derived.Laws.OwnMore
namespace Go.Proofs.YthbjeedmhgnnaaaGreat.Arr
open Go.ChangeShapes Go.WideShapes Go.ChangeAt Go.RowKit
open Tree Val

set_option maxRecDepth 20000 in
set_option maxHeartbeats 3200000 in
theorem plainList (B bytes f : Nat) (ih : Hid (MayC B bytes f)) (ns : List Nd) (oT : Option Addr) (capT n : Nat) (hn : n < ns.length) (hm : may ns = true) (g cK : Nat) (a : Arr) (o : Option Addr) (cap : Nat) (ho : Hid (Ok a)) (hk : (nd ns n).kind = 3) (w : World) (ht : IsT w oT ns)
    (hr : Hid (IntsAt w g 0 (kids ns n).length (fun i => (((kids ns n).getD i 0 : Nat) : Int)))) (hh : Hid (HoldsF B bytes w (f + 1) (a.cells o cap) a)) :
    Calls Tryz.prog 32 #[.agg #[.slice oT ns.length capT], .int .i64 (n : Int), .slice (some ⟨g, 0, none⟩) (kids ns n).length cK, a.val o cap] w fun r w' => r = .returned (.bool (plainB (mayF ns f) ns n a)) ∧ Below w.heap.size w w' := by
  obtain ⟨w1, w2, w3, e1, e2, e3, hb⟩ := boxs w oT (some ⟨g, 0, none⟩) ns.length capT (kids ns n).length cK a o cap
  obtain ⟨x, rfl, hl⟩ := ht.some (by omega)
  have h1 : (kids ns n).length = 1 := (may_of hm).list n hn hk
  have B3 : Hid (Below w.heap.size w w3) := hb.below
  have hl3 := hl.later hb.below
  have c0 := hl3.kind' n hn
  rw [hk] at c0
  have cT := hb.ty
  have j0 : (0 : Int) ≤ (n : Int) := Int.natCast_nonneg _
  have j1 : (n : Int) < (ns.length : Int) := by omega
  have d5 := hb.bx.c5
  have HP : Hid (plainB (mayF ns f) ns n a = (decide (a.data.size = 0) && pairB 67 ns f (kids ns n) a)) := plain_list hm hk h1
  have HC : Hid (Calls Tryz.prog 62 #[.func (.func 67) #[] #[.pointer (some ⟨w2.heap.size, 0, none⟩)], .pointer (some ⟨w1.heap.size, 0, none⟩), .pointer (some ⟨w2.heap.size, 0, none⟩), .pointer (some ⟨w.heap.size, 0, none⟩)] w3 fun r w' => r = .returned (.bool (pairB 67 ns f (kids ns n) a)) ∧ Below w3.heap.size w3 w') :=
    belowC B bytes f ih 67 (.inl rfl) w1.heap.size w2.heap.size w.heap.size a o cap ho ns (some x) capT g cK (kids ns n) (by omega) (by omega) w3 (hr.out.later hb.below) hb.ks hb.ty hb.bx (ht.later hb.below) (hh.out.later hb.below)
  unfold Arr.val
  clear hb ho hl hl3 ht hr hh ih h1
  generalize plainB (mayF ns f) ns n a = R at *
  generalize pairB 67 ns f (kids ns n) a = Q at *
  generalize (kids ns n).length = nk at *
  by_cases he : a.data.size = 0
  · have hev := empty_of he
    rw [decide_eq_true he, Bool.true_and] at HP
    clear he
    generalize a.data = v at *
    subst hev
    go_enter Tryz.func32, Tryz.ntmps32
    go_wp2_with fail
    refine HC.out.mono ?_
    rintro e w4 ⟨rfl, b4⟩
    go_wp2
    go_ret
    exact ⟨ret_bool HP.out.symm, bel2 B3.out b4⟩
  · have hev := ne_empty he
    rw [decide_eq_false he, Bool.false_and] at HP
    clear he
    go_enter Tryz.func32, Tryz.ntmps32
    go_wp2
    go_ret
    exact ⟨ret_bool HP.out.symm, B3.out⟩
set_option maxRecDepth 20000 in
set_option maxHeartbeats 3200000 in
theorem plainStruct (B bytes f : Nat) (ih : Hid (MayC B bytes f)) (ns : List Nd) (oT : Option Addr) (capT n : Nat) (hn : n < ns.length) (hm : may ns = true) (g cK : Nat) (a : Arr) (o : Option Addr) (cap : Nat) (ho : Hid (Ok a)) (hk : (nd ns n).kind = 4) (w : World) (ht : IsT w oT ns)
    (hr : Hid (IntsAt w g 0 (kids ns n).length (fun i => (((kids ns n).getD i 0 : Nat) : Int)))) (hh : Hid (HoldsF B bytes w (f + 1) (a.cells o cap) a)) :
    Calls Tryz.prog 32 #[.agg #[.slice oT ns.length capT], .int .i64 (n : Int), .slice (some ⟨g, 0, none⟩) (kids ns n).length cK, a.val o cap] w fun r w' => r = .returned (.bool (plainB (mayF ns f) ns n a)) ∧ Below w.heap.size w w' := by
  obtain ⟨w1, w2, w3, e1, e2, e3, hb⟩ := boxs w oT (some ⟨g, 0, none⟩) ns.length capT (kids ns n).length cK a o cap
  obtain ⟨x, rfl, hl⟩ := ht.some (by omega)
  have h1 : 1 ≤ (kids ns n).length := (may_of hm).struct n hn hk
  have h8 : (kids ns n).length ≤ 8 := by have h1 := length_kidsTo ns n ns.length; have h2 := (may_of hm).most; show (kidsTo ns n ns.length).length ≤ 8; omega
  have B3 : Hid (Below w.heap.size w w3) := hb.below
  have hl3 := hl.later hb.below
  have c0 := hl3.kind' n hn
  rw [hk] at c0
  have cT := hb.ty
  have j0 : (0 : Int) ≤ (n : Int) := Int.natCast_nonneg _
  have j1 : (n : Int) < (ns.length : Int) := by omega
  have d4 := hb.bx.c4
  have d5 := hb.bx.c5
  have HP : Hid (plainB (mayF ns f) ns n a = (decide (a.ends.size = 0) && decide (a.data.size = 0) && pairB 68 ns f (kids ns n) a)) := plain_struct hm hk
  have HC : Hid (Calls Tryz.prog 62 #[.func (.func 68) #[] #[.pointer (some ⟨w2.heap.size, 0, none⟩)], .pointer (some ⟨w1.heap.size, 0, none⟩), .pointer (some ⟨w2.heap.size, 0, none⟩), .pointer (some ⟨w.heap.size, 0, none⟩)] w3 fun r w' => r = .returned (.bool (pairB 68 ns f (kids ns n) a)) ∧ Below w3.heap.size w3 w') :=
    belowC B bytes f ih 68 (.inr rfl) w1.heap.size w2.heap.size w.heap.size a o cap ho ns (some x) capT g cK (kids ns n) h1 h8 w3 (hr.out.later hb.below) hb.ks hb.ty hb.bx (ht.later hb.below) (hh.out.later hb.below)
  unfold Arr.val
  clear hb ho hl hl3 ht hr hh ih h1 h8
  generalize plainB (mayF ns f) ns n a = R at *
  generalize pairB 68 ns f (kids ns n) a = Q at *
  generalize (kids ns n).length = nk at *
  by_cases he : a.ends.size = 0
  · have hev := empty_of he
    rw [decide_eq_true he, Bool.true_and] at HP
    clear he
    generalize a.ends = v at *
    subst hev
    by_cases he : a.data.size = 0
    · have hev := empty_of he
      rw [decide_eq_true he, Bool.true_and] at HP
      clear he
      generalize a.data = v at *
      subst hev
      go_enter Tryz.func32, Tryz.ntmps32
      go_wp2_with fail
      refine HC.out.mono ?_
      rintro e w4 ⟨rfl, b4⟩
      go_wp2
      go_ret
      exact ⟨ret_bool HP.out.symm, bel2 B3.out b4⟩
    · have hev := ne_empty he
      rw [decide_eq_false he, Bool.false_and] at HP
      clear he
      go_enter Tryz.func32, Tryz.ntmps32
      go_wp2
      go_ret
      exact ⟨ret_bool HP.out.symm, B3.out⟩
  · have hev := ne_empty he
    rw [decide_eq_false he, Bool.false_and, Bool.false_and] at HP
    clear he
    go_enter Tryz.func32, Tryz.ntmps32
    go_wp2
    go_ret
    exact ⟨ret_bool HP.out.symm, B3.out⟩
/-- isPlain, of any node. -/
theorem isPlain (B bytes f : Nat) (ih : Hid (MayC B bytes f)) (ns : List Nd) (oT : Option Addr) (capT n : Nat) (hn : n < ns.length) (hm : may ns = true) (oK : Option Addr) (cK b : Nat) (a : Arr) (o : Option Addr) (cap : Nat) (ho : Ok a) (w : World) (ht : IsT w oT ns)
    (hr : IsI w b oK (kids ns n)) (hh : HoldsF B bytes w (f + 1) (a.cells o cap) a) :
    Calls Tryz.prog 32 #[.agg #[.slice oT ns.length capT], .int .i64 (n : Int), .slice oK (kids ns n).length cK, a.val o cap] w fun r w' => r = .returned (.bool (plainB (mayF ns f) ns n a)) ∧ Below w.heap.size w w' := by
  have hk := (may_of hm).kind n hn
  rcases (show (nd ns n).kind = 0 ∨ (nd ns n).kind = 1 ∨ (nd ns n).kind = 2 ∨ (nd ns n).kind = 3 ∨ (nd ns n).kind = 4 from by omega) with c | c | c | c | c
  · exact plainInt ns oT capT n hn oK _ cK a o cap ho c f w ht
  · exact plainBool ns oT capT n hn oK _ cK a o cap ho c f w ht
  · exact plainBytes ns oT capT n hn oK _ cK a o cap ho c f w ht
  · have h1 : (kids ns n).length = 1 := (may_of hm).list n hn c
    rcases hr with e | ⟨g, rfl, _, hrow⟩
    · rw [e] at h1; cases h1
    · exact plainList B bytes f ih ns oT capT n hn hm g cK a o cap ho c w ht (fun j hj => by have := hrow.cell j hj; rw [Nat.zero_add]; exact this) hh
  · have h1 : 1 ≤ (kids ns n).length := (may_of hm).struct n hn c
    rcases hr with e | ⟨g, rfl, _, hrow⟩
    · rw [e] at h1; cases h1
    · exact plainStruct B bytes f ih ns oT capT n hn hm g cK a o cap ho c w ht (fun j hj => by have := hrow.cell j hj; rw [Nat.zero_add]; exact this) hh
end Go.Proofs.YthbjeedmhgnnaaaGreat.Arr
namespace Go.Proofs.YthbjeedmhgnnaaaGreat.Arr
open Go.ChangeShapes Go.WideShapes Go.ChangeAt Go.RowKit
open Tree Val

/-- All blocks but one are as they were. -/
structure Mv (b : Nat) (w w' : World) : Prop where
  os : w'.os = w.os
  tape : w'.tape = w.tape
  output : w'.output = w.output
  size : w.heap.size ≤ w'.heap.size
  block : ∀ k, k < w.heap.size → k ≠ b → w'.heap[k]? = w.heap[k]?
theorem Mv.trans {b : Nat} {u v w : World} (h : Mv b u v) (k : Mv b v w) : Mv b u w :=
  ⟨k.os.trans h.os, k.tape.trans h.tape, k.output.trans h.output, Nat.le_trans h.size k.size, fun i hi hb => (k.block i (Nat.lt_of_lt_of_le hi h.size) hb).trans (h.block i hi hb)⟩
theorem Mv.set (b : Nat) (w : World) (o : Nat) (v : Value) : Mv b w (w.setCell ⟨b, o, none⟩ v) := ⟨rfl, rfl, rfl, by simp [World.setCell], fun k _ hk => Below.heap_setCell _ _ _ _ hk⟩
theorem Mv.below {b B : Nat} {w w' : World} (h : Mv b w w') (hB : B ≤ b) (hw : B ≤ w.heap.size) : Below B w w' := ⟨h.os, h.tape, h.output, h.size, fun k hk => h.block k (by omega) (by omega)⟩
theorem Bx.put {w : World} {g : Nat} {a : Arr} {o : Option Addr} {cap : Nat} (h : Bx w g a o cap) (k : Arr) (ok : Option Addr) (ck : Nat) :
    ∃ w1, ((((((w.setCell ⟨g, 0, none⟩ (.int .i64 k.layout)).setCell ⟨g, 1, none⟩ (.int .i64 k.offset)).setCell ⟨g, 2, none⟩ (.int .i64 k.length)).setCell ⟨g, 3, none⟩ (.string k.valid)).setCell ⟨g, 4, none⟩ (.string k.ends)).setCell ⟨g, 5, none⟩ (.string k.data)).setCell ⟨g, 6, none⟩ (.slice ok k.kids.length ck) = w1 ∧ Bx w1 g k ok ck ∧ Mv g w w1 := by
  refine ⟨_, rfl, ⟨?_⟩, (((((((Mv.set g w 0 _).trans (Mv.set g _ 1 _)).trans (Mv.set g _ 2 _)).trans (Mv.set g _ 3 _)).trans (Mv.set g _ 4 _)).trans (Mv.set g _ 5 _)).trans (Mv.set g _ 6 _))⟩
  simp only [World.setCell, Array.getElem?_modify, if_true, h.blk, Option.map_some]
  rfl
theorem cell_move {b : Nat} {w w' : World} (hm : Mv b w w') {p : Addr} {v : Value} (h : w.cell? p = some v) (hb : p.block ≠ b) : w'.cell? p = some v := by
  have hlt := World.block_lt_of_cell? _ _ h
  have := hm.block p.block hlt hb
  unfold World.cell? at h ⊢
  rw [this]
  exact h
def nilVal : Value := .agg #[.int .i64 0, .int .i64 0, .int .i64 0, .string ⟨#[]⟩, .string ⟨#[]⟩, .string ⟨#[]⟩, .slice none 0 0]
theorem box0 (w : World) : ∃ w1, w.alloc (.cells #[.int .i64 0, .int .i64 0, .int .i64 0, .string ⟨#[]⟩, .string ⟨#[]⟩, .string ⟨#[]⟩, .slice none 0 0] 30) = w1 ∧ Bx w1 w.heap.size nil none 0 ∧ Below w.heap.size w w1 ∧ w.heap.size < w1.heap.size :=
  ⟨_, rfl, ⟨heap_alloc_new _ _⟩, (Below.refl _ _).alloc (Nat.le_refl _) _, by simp⟩
set_option maxRecDepth 20000 in
set_option maxHeartbeats 3200000 in
theorem base_few (ns : List Nd) (oT : Option Addr) (capT : Nat) (at' : Int) (a : Arr) (o : Option Addr) (cap : Nat) (hq : a.kids.length ≠ 1) (w : World) :
    Calls Tryz.prog 69 #[.agg #[.slice oT ns.length capT], .int .i64 at', a.val o cap] w fun r w' => r = .returned (.tuple #[nilVal, .bool false]) ∧ Below w.heap.size w w' := by
  obtain ⟨w1, e1, s1, c1, b1⟩ := boxed w (.slice oT ns.length capT) 27
  obtain ⟨w2, e2, x2, b2, z2⟩ := box7 w1 a o cap
  obtain ⟨w3, e3, x3, b3, z3⟩ := box0 w2
  have B3 : Hid (Below w.heap.size w w3) := bel2 b1 (bel2 b2 b3)
  have x2' := x2.later b3
  have d6 := x2'.c6
  have q0 := x3.c0
  obtain ⟨w4, e4, x4, m4⟩ := x3.put nil none 0
  have B4 : Hid (Below w.heap.size w w4) := B3.out.trans (m4.below (by have := b1.size; have := b2.size; omega) (by have := b1.size; have := b2.size; have := b3.size; omega))
  have X3 : Hid (Bx w3 w2.heap.size nil none 0) := x3
  have X4 : Hid (Bx w4 w2.heap.size nil none 0) := x4
  have hq2 : (((a.kids.length : Nat) : Int) == 1) = false := by rw [beq_eq_false_iff_ne]; omega
  have f0 := x3.fz 0
  have f1 := x3.fz 1
  have f2 := x3.fz 2
  have f3 := x3.fz 3
  have f4 := x3.fz 4
  have f5 := x3.fz 5
  have f6 := x3.fz 6
  have q1 := x3.c1
  have q2 := x3.c2
  have q3 := x3.c3
  have q4 := x3.c4
  have q5 := x3.c5
  have q6 := x3.c6
  unfold Arr.val
  clear b1 b2 b3 x2 x2' x3 x4 m4 z2 z3 s1
  have E4 : Hid (_ = w4) := e4
  clear e4
  unfold nil at q0 q1 q2 q3 q4 q5 q6
  simp only [List.length_nil] at q6
  go_enter Tryz.func69, Tryz.ntmps69
  go_wp2_with fail
  rw [show (((((((w3.setCell ⟨w2.heap.size, 0, none⟩ (.int .i64 0)).setCell ⟨w2.heap.size, 1, none⟩ (.int .i64 0)).setCell ⟨w2.heap.size, 2, none⟩ (.int .i64 0)).setCell ⟨w2.heap.size, 3, none⟩ (.string ⟨#[]⟩)).setCell ⟨w2.heap.size, 4, none⟩ (.string ⟨#[]⟩)).setCell ⟨w2.heap.size, 5, none⟩ (.string ⟨#[]⟩)).setCell ⟨w2.heap.size, 6, none⟩ (.slice none 0 0)) = w4 from E4.out]
  have y0 := X4.out.c0
  have y1 := X4.out.c1
  have y2 := X4.out.c2
  have y3 := X4.out.c3
  have y4 := X4.out.c4
  have y5 := X4.out.c5
  have y6 := X4.out.c6
  exact bodyPost_ret (v := .tuple #[nilVal, .bool false]) (by simp [results, Tryz.results69, go_sem, y0, y1, y2, y3, y4, y5, y6]; rfl) rfl ⟨rfl, B4.out⟩
set_option maxRecDepth 20000 in
set_option maxHeartbeats 3200000 in
theorem base_lay (ns : List Nd) (oT : Option Addr) (capT : Nat) (at' : Int) (a : Arr) (o : Option Addr) (cap : Nat) (hq : a.kids.length = 1) (k : Arr) (x : Addr) (ok : Option Addr) (ck : Nat) (ho : o = some x) (hl : k.layout ≠ 0) (w : World) (hk : Kid w x k ok ck) :
    Calls Tryz.prog 69 #[.agg #[.slice oT ns.length capT], .int .i64 at', a.val o cap] w fun r w' => r = .returned (.tuple #[nilVal, .bool false]) ∧ Below w.heap.size w w' := by
  obtain ⟨w1, e1, s1, c1, b1⟩ := boxed w (.slice oT ns.length capT) 27
  obtain ⟨w2, e2, x2, b2, z2⟩ := box7 w1 a o cap
  obtain ⟨w3, e3, x3, b3, z3⟩ := box0 w2
  have B3 : Hid (Below w.heap.size w w3) := bel2 b1 (bel2 b2 b3)
  have x2' := x2.later b3
  have d6 := x2'.c6
  have q0 := x3.c0
  obtain ⟨w4, e4, x4, m4⟩ := x3.put nil none 0
  have B4 : Hid (Below w.heap.size w w4) := B3.out.trans (m4.below (by have := b1.size; have := b2.size; omega) (by have := b1.size; have := b2.size; have := b3.size; omega))
  have X3 : Hid (Bx w3 w2.heap.size nil none 0) := x3
  have X4 : Hid (Bx w4 w2.heap.size nil none 0) := x4
  have r0 := (hk.later B3.out).k0
  have hl2 : (k.layout == 0) = false := by rw [beq_eq_false_iff_ne]; exact hl
  have f0 := x3.fz 0
  have f1 := x3.fz 1
  have f2 := x3.fz 2
  have f3 := x3.fz 3
  have f4 := x3.fz 4
  have f5 := x3.fz 5
  have f6 := x3.fz 6
  have q1 := x3.c1
  have q2 := x3.c2
  have q3 := x3.c3
  have q4 := x3.c4
  have q5 := x3.c5
  have q6 := x3.c6
  subst ho
  unfold Arr.val
  rw [hq] at d6 e2 ⊢
  clear hq hl hk
  clear b1 b2 b3 x2 x2' x3 x4 m4 z2 z3 s1
  have E4 : Hid (_ = w4) := e4
  clear e4
  unfold nil at q0 q1 q2 q3 q4 q5 q6
  simp only [List.length_nil] at q6
  go_enter Tryz.func69, Tryz.ntmps69
  go_wp2_with fail
  rw [show (((((((w3.setCell ⟨w2.heap.size, 0, none⟩ (.int .i64 0)).setCell ⟨w2.heap.size, 1, none⟩ (.int .i64 0)).setCell ⟨w2.heap.size, 2, none⟩ (.int .i64 0)).setCell ⟨w2.heap.size, 3, none⟩ (.string ⟨#[]⟩)).setCell ⟨w2.heap.size, 4, none⟩ (.string ⟨#[]⟩)).setCell ⟨w2.heap.size, 5, none⟩ (.string ⟨#[]⟩)).setCell ⟨w2.heap.size, 6, none⟩ (.slice none 0 0)) = w4 from E4.out]
  have y0 := X4.out.c0
  have y1 := X4.out.c1
  have y2 := X4.out.c2
  have y3 := X4.out.c3
  have y4 := X4.out.c4
  have y5 := X4.out.c5
  have y6 := X4.out.c6
  exact bodyPost_ret (v := .tuple #[nilVal, .bool false]) (by simp [results, Tryz.results69, go_sem, y0, y1, y2, y3, y4, y5, y6]; rfl) rfl ⟨rfl, B4.out⟩
theorem add_zero (x : Addr) : x.add (0 * 7) = x := by
  rw [Nat.zero_mul]
  unfold Addr.add
  split <;> simp_all
set_option maxRecDepth 20000 in
set_option maxHeartbeats 3200000 in
theorem base_yes (B bytes f : Nat) (ih : Hid (MayC B bytes f)) (ns : List Nd) (oT : Option Addr) (capT : Nat) (at' : Int) (a : Arr) (cap : Nat) (hq : a.kids.length = 1) (k : Arr) (x : Addr) (ok : Option Addr) (ck : Nat) (hl : k.layout = 0) (w : World) (ht : Hid (IsT w oT ns)) (hk : Hid (Kid w x k ok ck)) (hh : Hid (HoldsF B bytes w f (k.cells ok ck) k)) :
    Calls Tryz.prog 69 #[.agg #[.slice oT ns.length capT], .int .i64 at', a.val (some x) cap] w fun r w' => r = .returned (.tuple #[k.val ok ck, .bool (mayZ ns at' f k)]) ∧ Below w.heap.size w w' := by
  obtain ⟨w1, e1, s1, c1, b1⟩ := boxed w (.slice oT ns.length capT) 27
  obtain ⟨w2, e2, x2, b2, z2⟩ := box7 w1 a (some x) cap
  obtain ⟨w3, e3, x3, b3, z3⟩ := box0 w2
  have b03 := bel2 b1 (bel2 b2 b3)
  have B3 : Hid (Below w.heap.size w w3) := b03
  have d6 := (x2.later b3).c6
  have X2 : Hid (Bx w3 w1.heap.size a (some x) cap) := x2.later b3
  have cT := cell_later b3 (cell_later b2 c1)
  have K3 := hk.out.later b03
  have KK : Hid (Kid w3 x k ok ck) := K3
  have r0 := K3.k0
  have r1 := K3.k1
  have r2 := K3.k2
  have r3 := K3.k3
  have r4 := K3.k4
  have r5 := K3.k5
  have r6 := K3.k6
  have n1 : w2.heap.size ≠ w.heap.size := by have := b1.size; omega
  have n2 : w2.heap.size ≠ w1.heap.size := by omega
  have HM : Hid (∀ v, Below w.heap.size w v → Calls Tryz.prog 14 #[.agg #[.slice oT ns.length capT], .int .i64 at', k.val ok ck] v fun r w' => r = .returned (.bool (mayZ ns at' f k)) ∧ Below v.heap.size v w') := fun v hv => ih.out ns oT capT at' k ok ck v (ht.out.later hv) (hh.out.later hv)
  have X3 : Hid (Bx w3 w2.heap.size nil none 0) := x3
  have Z : Hid (w.heap.size ≤ w2.heap.size ∧ w.heap.size ≤ w3.heap.size) := by have := b1.size; have := b2.size; have := b3.size; exact ⟨by omega, by omega⟩
  have f0 := x3.fz 0
  have f1 := x3.fz 1
  have f2 := x3.fz 2
  have f3 := x3.fz 3
  have f4 := x3.fz 4
  have f5 := x3.fz 5
  have f6 := x3.fz 6
  have q0 := x3.c0
  have q1 := x3.c1
  have q2 := x3.c2
  have q3 := x3.c3
  have q4 := x3.c4
  have q5 := x3.c5
  have q6 := x3.c6
  unfold Arr.val at HM ⊢
  clear b1 b2 b3 x2 x3 z2 z3 s1 b03 K3 ht hh ih c1
  rw [hq] at d6 e2 ⊢
  clear hq
  generalize mayZ ns at' f k = Q at *
  unfold nil at q0 q1 q2 q3 q4 q5 q6
  simp only [List.length_nil] at q6
  rw [hl] at r0 HM
  have hxb : x.block ≠ w2.heap.size := by have := World.block_lt_of_cell? _ _ hk.out.k0; have := Z.out.1; omega
  have HL : Hid (k.layout = 0) := hl
  have KST : Hid (∀ W, Bx W w2.heap.size nil none 0 → w.heap.size ≤ W.heap.size → (fun W : World => Below w.heap.size w W ∧ W.cell? ⟨w.heap.size, 0, none⟩ = some (.slice oT ns.length capT) ∧ W.cell? ⟨w1.heap.size, 6, none⟩ = some (.slice (some x) 1 cap) ∧ W.cell? x = some (.int .i64 0) ∧ W.cell? { block := x.block, off := x.off + 1 } = some (.int .i64 k.offset) ∧ W.cell? { block := x.block, off := x.off + 2 } = some (.int .i64 k.length) ∧ W.cell? { block := x.block, off := x.off + 3 } = some (.string k.valid) ∧ W.cell? { block := x.block, off := x.off + 4 } = some (.string k.ends) ∧ W.cell? { block := x.block, off := x.off + 5 } = some (.string k.data) ∧ W.cell? { block := x.block, off := x.off + 6 } = some (.slice ok k.kids.length ck)) W → (fun W : World => Below w.heap.size w W ∧ W.cell? ⟨w.heap.size, 0, none⟩ = some (.slice oT ns.length capT) ∧ W.cell? ⟨w1.heap.size, 6, none⟩ = some (.slice (some x) 1 cap) ∧ W.cell? x = some (.int .i64 0) ∧ W.cell? { block := x.block, off := x.off + 1 } = some (.int .i64 k.offset) ∧ W.cell? { block := x.block, off := x.off + 2 } = some (.int .i64 k.length) ∧ W.cell? { block := x.block, off := x.off + 3 } = some (.string k.valid) ∧ W.cell? { block := x.block, off := x.off + 4 } = some (.string k.ends) ∧ W.cell? { block := x.block, off := x.off + 5 } = some (.string k.data) ∧ W.cell? { block := x.block, off := x.off + 6 } = some (.slice ok k.kids.length ck)) (((((((W.setCell ⟨w2.heap.size, 0, none⟩ (.int .i64 0)).setCell ⟨w2.heap.size, 1, none⟩ (.int .i64 k.offset)).setCell ⟨w2.heap.size, 2, none⟩ (.int .i64 k.length)).setCell ⟨w2.heap.size, 3, none⟩ (.string k.valid)).setCell ⟨w2.heap.size, 4, none⟩ (.string k.ends)).setCell ⟨w2.heap.size, 5, none⟩ (.string k.data)).setCell ⟨w2.heap.size, 6, none⟩ (.slice ok k.kids.length ck))) := by
    intro W hX hz
    rintro ⟨p0, p1, p2, p3, p4, p5, p6, p7, p8, p9⟩
    obtain ⟨w5, e5, x5, m5⟩ := hX.put k ok ck
    rw [HL.out] at e5
    rw [e5]
    exact ⟨p0.trans (m5.below Z.out.1 hz), cell_move m5 p1 (Ne.symm n1), cell_move m5 p2 (Ne.symm n2), cell_move m5 p3 hxb, cell_move m5 p4 hxb, cell_move m5 p5 hxb, cell_move m5 p6 hxb, cell_move m5 p7 hxb, cell_move m5 p8 hxb, cell_move m5 p9 hxb⟩
  have KLA : Hid (∀ W W', (fun W : World => Below w.heap.size w W ∧ W.cell? ⟨w.heap.size, 0, none⟩ = some (.slice oT ns.length capT) ∧ W.cell? ⟨w1.heap.size, 6, none⟩ = some (.slice (some x) 1 cap) ∧ W.cell? x = some (.int .i64 0) ∧ W.cell? { block := x.block, off := x.off + 1 } = some (.int .i64 k.offset) ∧ W.cell? { block := x.block, off := x.off + 2 } = some (.int .i64 k.length) ∧ W.cell? { block := x.block, off := x.off + 3 } = some (.string k.valid) ∧ W.cell? { block := x.block, off := x.off + 4 } = some (.string k.ends) ∧ W.cell? { block := x.block, off := x.off + 5 } = some (.string k.data) ∧ W.cell? { block := x.block, off := x.off + 6 } = some (.slice ok k.kids.length ck)) W → Below W.heap.size W W' → (fun W : World => Below w.heap.size w W ∧ W.cell? ⟨w.heap.size, 0, none⟩ = some (.slice oT ns.length capT) ∧ W.cell? ⟨w1.heap.size, 6, none⟩ = some (.slice (some x) 1 cap) ∧ W.cell? x = some (.int .i64 0) ∧ W.cell? { block := x.block, off := x.off + 1 } = some (.int .i64 k.offset) ∧ W.cell? { block := x.block, off := x.off + 2 } = some (.int .i64 k.length) ∧ W.cell? { block := x.block, off := x.off + 3 } = some (.string k.valid) ∧ W.cell? { block := x.block, off := x.off + 4 } = some (.string k.ends) ∧ W.cell? { block := x.block, off := x.off + 5 } = some (.string k.data) ∧ W.cell? { block := x.block, off := x.off + 6 } = some (.slice ok k.kids.length ck)) W') := by
    intro W W'
    rintro ⟨p0, p1, p2, p3, p4, p5, p6, p7, p8, p9⟩ hb
    exact ⟨bel2 p0 hb, cell_later hb p1, cell_later hb p2, cell_later hb p3, cell_later hb p4, cell_later hb p5, cell_later hb p6, cell_later hb p7, cell_later hb p8, cell_later hb p9⟩
  have K3 : Hid ((fun W : World => Below w.heap.size w W ∧ W.cell? ⟨w.heap.size, 0, none⟩ = some (.slice oT ns.length capT) ∧ W.cell? ⟨w1.heap.size, 6, none⟩ = some (.slice (some x) 1 cap) ∧ W.cell? x = some (.int .i64 0) ∧ W.cell? { block := x.block, off := x.off + 1 } = some (.int .i64 k.offset) ∧ W.cell? { block := x.block, off := x.off + 2 } = some (.int .i64 k.length) ∧ W.cell? { block := x.block, off := x.off + 3 } = some (.string k.valid) ∧ W.cell? { block := x.block, off := x.off + 4 } = some (.string k.ends) ∧ W.cell? { block := x.block, off := x.off + 5 } = some (.string k.data) ∧ W.cell? { block := x.block, off := x.off + 6 } = some (.slice ok k.kids.length ck)) w3.drew) := KLA.out w3 _ ⟨B3.out, cT, d6, r0, r1, r2, r3, r4, r5, r6⟩ (drewN_below w3 1)
  have XD : Hid (Bx w3.drew w2.heap.size nil none 0) := X3.out.later (drewN_below w3 1)
  have ZD : Hid (w.heap.size ≤ w3.drew.heap.size) := Z.out.2
  have BD : Hid (Below w.heap.size w w3.drew) := K3.out.1
  clear hl hk
  go_enter Tryz.func69, Tryz.ntmps69
  go_wp2_with fail
  go_region_held3 (fun W : World => Below w.heap.size w W ∧ W.cell? ⟨w.heap.size, 0, none⟩ = some (.slice oT ns.length capT) ∧ W.cell? ⟨w1.heap.size, 6, none⟩ = some (.slice (some x) 1 cap) ∧ W.cell? x = some (.int .i64 0) ∧ W.cell? { block := x.block, off := x.off + 1 } = some (.int .i64 k.offset) ∧ W.cell? { block := x.block, off := x.off + 2 } = some (.int .i64 k.length) ∧ W.cell? { block := x.block, off := x.off + 3 } = some (.string k.valid) ∧ W.cell? { block := x.block, off := x.off + 4 } = some (.string k.ends) ∧ W.cell? { block := x.block, off := x.off + 5 } = some (.string k.data) ∧ W.cell? { block := x.block, off := x.off + 6 } = some (.slice ok k.kids.length ck)) (first | with_reducible exact K3.out | with_reducible exact K4.out | with_reducible exact KST.out _ X4.out Z4.out K4.out)
    (first | (go_at_call 14; refine (HM.out _ BD.out).mono ?_; rintro e w4 ⟨rfl, b4⟩; have K4 : Hid _ := KLA.out _ _ K3.out b4; have Y4 := XD.out.later b4; have X4 : Hid _ := Y4; have Z4 : Hid _ := Nat.le_trans ZD.out b4.size; have u0 := Y4.c0; have u1 := Y4.c1; have u2 := Y4.c2; have u3 := Y4.c3; have u4 := Y4.c4; have u5 := Y4.c5; have u6 := Y4.c6; have v0 := Y4.fz 0; have v1 := Y4.fz 1; have v2 := Y4.fz 2; have v3 := Y4.fz 3; have v4 := Y4.fz 4; have v5 := Y4.fz 5; have v6 := Y4.fz 6; unfold nil at u0 u1 u2 u3 u4 u5 u6; simp only [List.length_nil] at u6; clear b4 Y4))
  all_goals
    obtain ⟨w5, e5, x5, m5⟩ := X4.out.put k ok ck
    have BE : Hid (Below w.heap.size w w5) := K4.out.1.trans (m5.below Z.out.1 Z4.out)
    rw [HL.out] at e5
    rw [e5]
    have y0 := x5.c0
    have y1 := x5.c1
    have y2 := x5.c2
    have y3 := x5.c3
    have y4 := x5.c4
    have y5 := x5.c5
    have y6 := x5.c6
    rw [HL.out] at y0
    clear x5 m5 e5 u0 u1 u2 u3 u4 u5 u6 v0 v1 v2 v3 v4 v5 v6 KST KLA K3 K4 X4
    go_wp2_with fail
    exact bodyPost_ret (v := .tuple #[.agg #[.int .i64 0, .int .i64 k.offset, .int .i64 k.length, .string k.valid, .string k.ends, .string k.data, .slice ok k.kids.length ck], .bool Q]) (by simp [results, Tryz.results69, go_sem, y0, y1, y2, y3, y4, y5, y6]) rfl ⟨by rw [HL.out], BE.out⟩
end Go.Proofs.YthbjeedmhgnnaaaGreat.Arr
namespace Go.Proofs.YthbjeedmhgnnaaaGreat.Arr
open Go.ChangeShapes Go.WideShapes Go.ChangeAt Go.RowKit
open Tree Val

/-- What base answers of an array. -/
theorem baseC (B bytes f : Nat) (ih : MayC B bytes f) (ns : List Nd) (oT : Option Addr) (capT : Nat) (at' : Int) (a : Arr) (o : Option Addr) (cap : Nat) (w : World) (ht : IsT w oT ns) (hh : HoldsF B bytes w (f + 1) (a.cells o cap) a) :
    ∃ (k : Arr) (ok : Option Addr) (ck : Nat) (okb : Bool), (∀ v, Below w.heap.size w v → Calls Tryz.prog 69 #[.agg #[.slice oT ns.length capT], .int .i64 at', a.val o cap] v fun r w' => r = .returned (.tuple #[k.val ok ck, .bool okb]) ∧ Below v.heap.size v w') ∧
      okb = (decide (a.kids.length = 1) && decide ((kidAt a 0).layout = 0) && mayZ ns at' f (kidAt a 0)) ∧ (okb = true → k = kidAt a 0) := by
  by_cases h1 : a.kids.length = 1
  · obtain ⟨x, o', cap', rfl, hk, hk2⟩ := hh.kid (i := 0) (by omega)
    rw [add_zero] at hk
    by_cases h2 : (kidAt a 0).layout = 0
    · refine ⟨kidAt a 0, o', cap', mayZ ns at' f (kidAt a 0), fun v hv => ?_, ?_, fun _ => rfl⟩
      · exact base_yes B bytes f ih ns oT capT at' a cap h1 (kidAt a 0) x o' cap' h2 v (ht.later hv) (hk.later hv) (hk2.later hv)
      · rw [decide_eq_true h1, decide_eq_true h2, Bool.true_and, Bool.true_and]
    · refine ⟨nil, none, 0, false, fun v hv => ?_, ?_, fun h => by cases h⟩
      · exact base_lay ns oT capT at' a (some x) cap h1 (kidAt a 0) x o' cap' rfl h2 v (hk.later hv)
      · rw [decide_eq_false h2, Bool.and_false, Bool.false_and]
  · refine ⟨nil, none, 0, false, fun v _ => ?_, ?_, fun h => by cases h⟩
    · exact base_few ns oT capT at' a o cap h1 v
    · rw [decide_eq_false h1, Bool.false_and, Bool.false_and]
def rowD (a : Arr) (m : Int) (i : Nat) : Bool := !there a i || belowB a.data i m
/-- All rows from one on. -/
def allD (a : Arr) (m : Int) (lo hi : Nat) : Prop := ∀ i, lo ≤ i → i < hi → rowD a m i = true
set_option maxRecDepth 20000 in
set_option maxHeartbeats 3200000 in
theorem isDict_w (B bytes f : Nat) (ih : Hid (MayC B bytes f)) (ns : List Nd) (oT : Option Addr) (capT : Nat) (at' : Int) (a : Arr) (o : Option Addr) (cap : Nat) (ho : Ok a) (hlack : Hid (a.valid.size = 0 ∨ rowsOf a ≤ 8 * a.valid.size)) (R : Bool) (w : World) (ht : Hid (IsT w oT ns)) (hh : Hid (HoldsF B bytes w (f + 1) (a.cells o cap) a))
    (hR : Hid (∀ okb m v, okb = (decide (a.kids.length = 1) && decide ((kidAt a 0).layout = 0) && mayZ ns at' f (kidAt a 0)) → (okb = true → m = (kidAt a 0).length ∧ v = (kidAt a 0).valid) → (R = true ↔ okb = true ∧ a.ends.size = 0 ∧ v.size = 0 ∧ 4 * rowsOf a ≤ a.data.size ∧ allD a m a.offset.toNat (rowsOf a)))) :
    Calls Tryz.prog 34 #[.agg #[.slice oT ns.length capT], .int .i64 at', a.val o cap] w fun r w' => r = .returned (.bool R) ∧ Below w.heap.size w w' := by
  obtain ⟨k, ok, ck, okb, hb, hokb, hkk⟩ := baseC B bytes f ih.out ns oT capT at' a o cap w ht.out hh.out
  have HR : Hid (R = true ↔ okb = true ∧ a.ends.size = 0 ∧ k.valid.size = 0 ∧ 4 * rowsOf a ≤ a.data.size ∧ allD a k.length a.offset.toNat (rowsOf a)) := hR.out okb k.length k.valid hokb (fun h => by rw [hkk h]; exact ⟨rfl, rfl⟩)
  obtain ⟨w1, e1, s1, c1, b1⟩ := boxed w (.slice oT ns.length capT) 27
  obtain ⟨w2, e2, x2, b2, z2⟩ := box7 w1 a o cap
  have B2 : Hid (Below w.heap.size w w2) := bel2 b1 b2
  have HB : Hid (Calls Tryz.prog 69 #[.agg #[.slice oT ns.length capT], .int .i64 at', a.val o cap] w2 fun r w' => r = .returned (.tuple #[k.val ok ck, .bool okb]) ∧ Below w2.heap.size w2 w') := hb w2 B2.out
  have X2 : Hid (Bx w2 w1.heap.size a o cap) := x2
  have cT := cell_later b2 c1
  have d0 := x2.c0
  have d1 := x2.c1
  have d2 := x2.c2
  have d3 := x2.c3
  have d4 := x2.c4
  have d5 := x2.c5
  have d6 := x2.c6
  have HO : Hid (Ok a) := ho
  unfold Arr.val at HB ⊢
  clear hb hokb hkk b1 b2 x2 z2 s1 c1 ih ht hh hR ho
  go_enter Tryz.func34, Tryz.ntmps34
  go_wp2_with fail
  refine HB.out.mono ?_
  rintro e w3 ⟨rfl, b3⟩
  have B3 : Hid (Below w2.heap.size w2 w3) := b3
  clear b3 d0 d1 d2 d3 d4 d5 d6 cT e1 e2
  go_wp2_with fail
  obtain ⟨w4, e4, x4, b4, z4⟩ := box7 w3 k ok ck
  rw [e4]
  have X4 : Hid (Bx w4 w1.heap.size a o cap) := X2.out.later (bel2 B3.out b4)
  have K4 : Hid (Bx w4 w3.heap.size k ok ck) := x4
  have B4 : Hid (Below w.heap.size w w4) := bel2 B2.out (bel2 B3.out b4)
  have HRo : Hid (∀ v, Calls Tryz.prog 61 #[a.val o cap] v fun r w' => r = .returned (.int .i64 ((rowsOf a : Nat) : Int)) ∧ Below v.heap.size v w') := fun v => rows a o cap HO.out.off HO.out.len HO.out.rows v
  have hrow : rowsOf a ≤ 64 := by have := HO.out.rows; have := HO.out.off; have := HO.out.len; unfold rowsOf; omega
  have hw : IntKind.i64.wrap (4 * ((rowsOf a : Nat) : Int)) = 4 * ((rowsOf a : Nat) : Int) := by rw [IntKind.wrap_i64]; omega
  have HOFF : Hid (a.offset = ((a.offset.toNat : Nat) : Int)) := by have := HO.out.off; unfold Hid; omega
  have hne := BW.some w4
  have C := X4.out.cells
  have d0 := C.d0
  have d1 := C.d1
  have d2 := C.d2
  have d3 := C.d3
  have d4 := C.d4
  have d5 := C.d5
  have d6 := C.d6
  have C2 := K4.out.cells
  have q2 := C2.d2
  have q3 := C2.d3
  unfold Arr.val at HRo
  clear C C2 e4 x4 b4 z4
  have HFA : Hid (¬ (okb = true ∧ a.ends.size = 0 ∧ k.valid.size = 0 ∧ 4 * rowsOf a ≤ a.data.size) → R = false) := fun h => by
    cases c : R
    · rfl
    · have := HR.out.1 c
      exact absurd ⟨this.1, this.2.1, this.2.2.1, this.2.2.2.1⟩ h
  cases okb with
  | false =>
    have HN : Hid (R = false) := HFA.out (fun h => by cases h.1)
    have HRe : Hid _ := HRo.out
    refine region_in (C := fun w' => ∃ s : BW w4, w' = s.w) (by kernel_rfl) (by kernel_rfl) ⟨⟨w4.drew, (Below.refl _ _).drew⟩, rfl⟩ ?_
    repeat (go_big_quiet_step (first
      | (go_at_call 61; rename_i s; refine (HRe.out s.w).mono ?_; rintro e wx ⟨rfl, hbx⟩; exact ⟨rfl, ⟨wx, bel2 s.ok hbx⟩, rfl⟩)))
    refine wpQuiet_nil ?_
    intro _ hw'
    obtain ⟨s, hw''⟩ := hw'
    subst hw''
    have HE : Hid (Below w4.heap.size w4 s.w) := s.ok
    clear hne d0 d1 d2 d3 d4 d5 d6 q2 q3
    go_wp2
    go_ret
    exact ⟨ret_bool HN.out.symm, bel2 B4.out HE.out⟩
  | true =>
    by_cases he : a.ends.size = 0
    · have HE0 : Hid (a.ends.size = 0) := he
      have hev := empty_of he
      by_cases hv : k.valid.size = 0
      · have HV0 : Hid (k.valid.size = 0) := hv
        have hvv := empty_of hv
        have HRe : Hid _ := HRo.out
        rw [hev] at d4 HRe
        rw [hvv] at q3
        by_cases hd : 4 * rowsOf a ≤ a.data.size
        · have HD0 : Hid (4 * rowsOf a ≤ a.data.size) := hd
          have hd2 : ¬ ((a.data.size : Nat) : Int) < 4 * ((rowsOf a : Nat) : Int) := by omega
          clear he hev hv hvv hd
          refine region_in (C := fun w' => ∃ s : BW w4, w' = s.w) (by kernel_rfl) (by kernel_rfl) ⟨⟨w4.drew, (Below.refl _ _).drew⟩, rfl⟩ ?_
          repeat (go_big_quiet_step (first
            | (go_at_call 61; rename_i s; refine (HRe.out s.w).mono ?_; rintro e wx ⟨rfl, hbx⟩; exact ⟨rfl, ⟨wx, bel2 s.ok hbx⟩, rfl⟩)))
          refine wpQuiet_nil ?_
          intro _ hw'
          obtain ⟨s, hw''⟩ := hw'
          subst hw''
          have HE : Hid (Below w4.heap.size w4 s.w) := s.ok
          clear hne d0 d1 d2 d3 d4 d5 d6 q2 q3
          have X5 := X4.out.later HE.out
          have d1 := X5.c1
          rw [HOFF.out] at d1
          generalize s.w = w5 at *
          clear X5
          go_wp2_with fail
          go_loopw [9] (fun t wr => ∃ r : Nat, a.offset.toNat ≤ r ∧ r ≤ rowsOf a ∧ t = .int .i64 (r : Int) ∧ allD a k.length a.offset.toNat r ∧ Below w4.heap.size w4 wr) (fun t _ => rowsOf a - (intOf t).toNat)
          case atStart => exact ⟨a.offset.toNat, Nat.le_refl _, by have := HO.out.off; have := HO.out.len; unfold rowsOf; omega, by congr 1; have := HO.out.off; omega, fun i h1 h2 => by omega, HE.out⟩
          case round =>
            obtain ⟨r, hr1, hr2, rfl, hall, hbl⟩ := hrel
            have HA : Hid (allD a k.length a.offset.toNat r) := hall
            have X6 := X4.out.later hbl
            have BL : Hid (Below w4.heap.size w4 wr) := hbl
            have Hr1 : Hid (a.offset.toNat ≤ r) := hr1
            have d0 := X6.c0
            have d1 := X6.c1
            have d2 := X6.c2
            have d3 := X6.c3
            have d4 := X6.c4
            have d5 := X6.c5
            have d6 := X6.c6
            clear hall X6 hbl hr1
            by_cases hlt : r < rowsOf a
            · have hlt2 : (r : Int) < ((rowsOf a : Nat) : Int) := by omega
              have HT : Hid (∀ v, Calls Tryz.prog 70 #[.string a.valid, .int .i64 (r : Int)] v fun e w' => e = .returned (.bool (there a r)) ∧ w' = v) := fun v => isThere a r HO.out.valid (by have := hlack.out; omega) v
              have HBl : Hid (∀ v, Calls Tryz.prog 71 #[.string a.data, .int .i64 (r : Int), .int .i64 k.length] v fun e w' => e = .returned (.bool (belowB a.data r k.length)) ∧ w' = v) := fun v => isBelow a.data r k.length HO.out.data (by omega) v
              have HRD : Hid (rowD a k.length r = (!there a r || belowB a.data r k.length)) := rfl
              have HRF : Hid (rowD a k.length r = false → R = false) := fun h => by
                cases c : R
                · rfl
                · have := (HR.out.1 c).2.2.2.2 r Hr1.out hlt
                  rw [h] at this
                  cases this
              unfold Arr.val at HT
              generalize there a r = T at *
              generalize belowB a.data r k.length = L at *
              go_wp2_with fail
              refine (HRo.out wr).mono ?_
              rintro e w6 ⟨rfl, b6⟩
              have B6 : Hid (Below w4.heap.size w4 w6) := bel2 BL.out b6
              have X6 := X4.out.later B6.out
              clear d0 d1 d2 d3 d4 d5 d6 b6
              have d0 := X6.c0
              have d1 := X6.c1
              have d2 := X6.c2
              have d3 := X6.c3
              have d4 := X6.c4
              have d5 := X6.c5
              have d6 := X6.c6
              clear X6
              go_wp2_with fail
              refine (HT.out w6).mono ?_
              rintro e w7 ⟨rfl, e7⟩
              obtain rfl := e7.symm
              have B7 := B6
              have X7 := X4.out.later B7.out
              have Y7 := K4.out.later B7.out
              clear d0 d1 d2 d3 d4 d5 d6 e7
              have d5 := X7.c5
              have q2 := Y7.c2
              clear X7 Y7
              cases T with
              | false =>
                have HG : Hid (rowD a k.length r = true) := HRD.out
                go_wp2
                go_roundw
                case rel =>
                  refine ⟨r + 1, by have := Hr1.out; omega, by omega, by go_num, fun i h1 h2 => ?_, B7.out⟩
                  by_cases e : i = r
                  · rw [e]; exact HG.out
                  · exact HA.out i h1 (by omega)
                case measure => simp [intOf]; omega
              | true =>
                go_wp2_with fail
                refine (HBl.out w6).mono ?_
                rintro e w8 ⟨rfl, h8⟩
                subst w8
                cases L with
                | false =>
                  have HN : Hid (R = false) := HRF.out HRD.out
                  go_wp2
                  go_ret
                  exact ⟨ret_bool HN.out.symm, bel2 B4.out B7.out⟩
                | true =>
                  have HG : Hid (rowD a k.length r = true) := HRD.out
                  go_wp2
                  go_roundw
                  case rel =>
                    refine ⟨r + 1, by have := Hr1.out; omega, by omega, by go_num, fun i h1 h2 => ?_, B7.out⟩
                    by_cases e : i = r
                    · rw [e]; exact HG.out
                    · exact HA.out i h1 (by omega)
                  case measure => simp [intOf]; omega
            · obtain rfl : r = rowsOf a := by omega
              have HN : Hid (R = true) := HR.out.2 ⟨trivial, HE0.out, HV0.out, HD0.out, HA.out⟩
              generalize rowsOf a = n at *
              go_wp2_with fail
              refine (HRo.out wr).mono ?_
              rintro e w6 ⟨rfl, b6⟩
              have B6 : Hid (Below w4.heap.size w4 w6) := bel2 BL.out b6
              clear b6
              go_wp2
              go_ret
              exact ⟨ret_bool HN.out.symm, bel2 B4.out B6.out⟩
        · have HN : Hid (R = false) := HFA.out (fun h => hd h.2.2.2)
          have hd2 : ((a.data.size : Nat) : Int) < 4 * ((rowsOf a : Nat) : Int) := by omega
          clear he hev hv hvv hd
          refine region_in (C := fun w' => ∃ s : BW w4, w' = s.w) (by kernel_rfl) (by kernel_rfl) ⟨⟨w4.drew, (Below.refl _ _).drew⟩, rfl⟩ ?_
          repeat (go_big_quiet_step (first
            | (go_at_call 61; rename_i s; refine (HRe.out s.w).mono ?_; rintro e wx ⟨rfl, hbx⟩; exact ⟨rfl, ⟨wx, bel2 s.ok hbx⟩, rfl⟩)))
          refine wpQuiet_nil ?_
          intro _ hw'
          obtain ⟨s, hw''⟩ := hw'
          subst hw''
          have HE : Hid (Below w4.heap.size w4 s.w) := s.ok
          clear hne d0 d1 d2 d3 d4 d5 d6 q2 q3
          go_wp2
          go_ret
          exact ⟨ret_bool HN.out.symm, bel2 B4.out HE.out⟩
      · have HN : Hid (R = false) := HFA.out (fun h => hv h.2.2.1)
        have hvv := ne_empty hv
        have HRe : Hid _ := HRo.out
        rw [hev] at d4 HRe
        clear he hev hv
        refine region_in (C := fun w' => ∃ s : BW w4, w' = s.w) (by kernel_rfl) (by kernel_rfl) ⟨⟨w4.drew, (Below.refl _ _).drew⟩, rfl⟩ ?_
        repeat (go_big_quiet_step (first
          | (go_at_call 61; rename_i s; refine (HRe.out s.w).mono ?_; rintro e wx ⟨rfl, hbx⟩; exact ⟨rfl, ⟨wx, bel2 s.ok hbx⟩, rfl⟩)))
        refine wpQuiet_nil ?_
        intro _ hw'
        obtain ⟨s, hw''⟩ := hw'
        subst hw''
        have HE : Hid (Below w4.heap.size w4 s.w) := s.ok
        clear hne d0 d1 d2 d3 d4 d5 d6 q2 q3
        go_wp2
        go_ret
        exact ⟨ret_bool HN.out.symm, bel2 B4.out HE.out⟩
    · have HN : Hid (R = false) := HFA.out (fun h => he h.2.1)
      have hev := ne_empty he
      have HRe : Hid _ := HRo.out
      clear he
      refine region_in (C := fun w' => ∃ s : BW w4, w' = s.w) (by kernel_rfl) (by kernel_rfl) ⟨⟨w4.drew, (Below.refl _ _).drew⟩, rfl⟩ ?_
      repeat (go_big_quiet_step (first
        | (go_at_call 61; rename_i s; refine (HRe.out s.w).mono ?_; rintro e wx ⟨rfl, hbx⟩; exact ⟨rfl, ⟨wx, bel2 s.ok hbx⟩, rfl⟩)))
      refine wpQuiet_nil ?_
      intro _ hw'
      obtain ⟨s, hw''⟩ := hw'
      subst hw''
      have HE : Hid (Below w4.heap.size w4 s.w) := s.ok
      clear hne d0 d1 d2 d3 d4 d5 d6 q2 q3
      go_wp2
      go_ret
      exact ⟨ret_bool HN.out.symm, bel2 B4.out HE.out⟩
theorem dict_iff {a : Arr} (ho : Ok a) : dictB a = true ↔ 4 * rowsOf a ≤ a.data.size ∧ (kidAt a 0).valid.size = 0 ∧ allD a (kidAt a 0).length a.offset.toNat (rowsOf a) := by
  have h0 := ho.off
  unfold dictB allD rowD belowB
  simp only [Bool.and_eq_true, decide_eq_true_eq, List.all_eq_true, Bool.or_eq_true, List.mem_range]
  constructor
  · rintro ⟨⟨h1, h2⟩, h3⟩
    refine ⟨h1, h2, fun i hi hj => ?_⟩
    rcases h3 i hj with (c | c) | c
    · omega
    · exact .inl c
    · exact .inr c
  · rintro ⟨h1, h2, h3⟩
    refine ⟨⟨h1, h2⟩, fun i hi => ?_⟩
    by_cases c : (i : Int) < a.offset
    · exact .inl (.inl c)
    · rcases h3 i (by omega) hi with d | d
      · exact .inl (.inr d)
      · exact .inr d
/-- What May asks of an array by a dictionary. -/
def dictA' (ns : List Nd) (f n : Nat) (a : Arr) : Bool := decide (a.kids.length = 1) && decide (a.ends.size = 0) && decide ((kidAt a 0).layout = 0) && mayF ns f n (kidAt a 0) && dictB a
theorem isDict (B bytes f : Nat) (ih : MayC B bytes f) (ns : List Nd) (oT : Option Addr) (capT n : Nat) (hn : n < ns.length) (hm : may ns = true) (a : Arr) (o : Option Addr) (cap : Nat) (ho : Ok a) (hlack : a.valid.size = 0 ∨ rowsOf a ≤ 8 * a.valid.size) (w : World) (ht : IsT w oT ns) (hh : HoldsF B bytes w (f + 1) (a.cells o cap) a) :
    Calls Tryz.prog 34 #[.agg #[.slice oT ns.length capT], .int .i64 (n : Int), a.val o cap] w fun r w' => r = .returned (.bool (dictA' ns f n a)) ∧ Below w.heap.size w w' := by
  refine isDict_w B bytes f ih ns oT capT n a o cap ho hlack _ w ht hh (fun okb m v h1 h2 => ?_)
  rw [mayZ_kid hm hn] at h1
  unfold dictA'
  constructor
  · intro h
    simp only [Bool.and_eq_true, decide_eq_true_eq] at h
    obtain ⟨⟨⟨⟨c1, c2⟩, c3⟩, c4⟩, c5⟩ := h
    have h3 : okb = true := by rw [h1, decide_eq_true c1, decide_eq_true c3, c4]; rfl
    obtain ⟨rfl, rfl⟩ := h2 h3
    obtain ⟨e1, e2, e3⟩ := (dict_iff ho).1 c5
    exact ⟨h3, c2, e2, e1, e3⟩
  · rintro ⟨c1, c2, c3, c4, c5⟩
    obtain ⟨rfl, rfl⟩ := h2 c1
    rw [c1] at h1
    have h1 := h1.symm
    simp only [Bool.and_eq_true, decide_eq_true_eq] at h1
    simp only [Bool.and_eq_true, decide_eq_true_eq]
    exact ⟨⟨⟨⟨h1.1.1, c2⟩, h1.1.2⟩, h1.2⟩, (dict_iff ho).2 ⟨c4, c3, c5⟩⟩
end Go.Proofs.YthbjeedmhgnnaaaGreat.Arr
namespace Go.Proofs.YthbjeedmhgnnaaaGreat.Arr
open Go.ChangeShapes Go.WideShapes Go.ChangeAt Go.RowKit
open Tree Val

theorem mayZ_len {ns : List Nd} {at' : Int} {f : Nat} {k : Arr} (h : mayZ ns at' f k = true) : 0 ≤ k.length ∧ k.length ≤ 64 := by
  unfold mayZ at h
  rw [Bool.and_eq_true] at h
  cases f with
  | zero => cases h.2
  | succ f =>
    have hh := (mayF_cases h.2).1
    have h1 := hh.off
    have h2 := hh.len
    have h3 := hh.rows
    omega
/-- A 0, and the numbers behind it. -/
def runP (s : ByteArray) (L : Nat) : List Nat := [0] ++ (List.range L).map (endAt s)
theorem runP_len (s : ByteArray) (L : Nat) : (runP s L).length = L + 1 := by
  unfold runP
  rw [List.length_append, List.length_map, List.length_range]
  exact Nat.add_comm _ _
theorem getD_behind (g : Nat → Nat) (L i : Nat) (hi : i < L) : ([0] ++ (List.range L).map g).getD (i + 1) 0 = g i := by
  rw [List.getD_eq_getElem?_getD, List.getElem?_append_right (by simp), List.length_singleton, Nat.add_sub_cancel, List.getElem?_map, List.getElem?_range hi, Option.map_some, Option.getD_some]
theorem runP_at (s : ByteArray) (L i : Nat) (hi : i ≤ L) : (runP s L).getD i 0 = prev s i := by
  unfold runP
  cases i with
  | zero =>
    rw [prev_zero, List.getD_eq_getElem?_getD, List.getElem?_append_left (by simp)]
    simp
  | succ i => rw [prev_succ, getD_behind _ _ _ (by omega)]
theorem beside59 (x y : Int) : besideF 74 x y = decide (x < y) := by
  unfold besideF
  rw [if_neg (by decide)]
theorem rise_all (s : ByteArray) (L : Nat) : allTo (fun i => besideF 74 (((runP s L).getD i 0 : Nat) : Int) (((runP s L).getD (i + 1) 0 : Nat) : Int)) L = riseE s L := by
  rw [Bool.eq_iff_iff, rise_iff]
  constructor
  · intro h i hi
    have := allTo_at h hi
    rw [runP_at s L i (by omega), runP_at s L (i + 1) (by omega), prev_succ, beside59, decide_eq_true_eq] at this
    omega
  · intro h
    refine allTo_of fun i hi => ?_
    have := h i hi
    rw [runP_at s L i (by omega), runP_at s L (i + 1) (by omega), prev_succ, beside59, decide_eq_true_eq]
    omega
theorem one_ints (p : List Nat) : ∀ u ∈ ints p, u.oneCell' = true := by
  intro u hu
  obtain ⟨b, _, rfl⟩ := List.mem_map.1 hu
  rfl
set_option maxRecDepth 20000 in
set_option maxHeartbeats 1600000 in
theorem beside2 (H : Nat) (hH : H = 97 ∨ H = 74) (g off cap n : Nat) (z : Nat → Int) (hn : n ≤ 65535) (hcap : n + 1 ≤ cap) (hc2 : cap ≤ 9223372036854775807) (hq : Hid (∀ k, k < n → Near H (z k) (z (k + 1)))) (w : World) (hl : Hid (IntsAt w g off (n + 1) z)) :
    Calls Tryz.prog 73 #[.slice (some ⟨g, off, none⟩) (n + 1) cap, .func (.func H) #[] #[]] w fun r w' => r = .returned (.bool (allTo (fun i => besideF H (z i) (z (i + 1))) n)) ∧ Below w.heap.size w w' := by
  have HCC : Hid (∀ v c1 off2 c2, Below w.heap.size w v → (n = 0 ∨ off2 = off + 1) → Calls Tryz.prog 100 #[.slice (some ⟨g, off, none⟩) n c1, .slice (some ⟨g, off2, none⟩) n c2, .func (.func H) #[] #[]] v fun r w' => r = .returned (.bool (allTo (fun i => besideF H (z i) (z (i + 1))) n)) ∧ Below v.heap.size v w') := fun v c1 off2 c2 hv ho =>
    pairII H hH g off c1 g off2 c2 n z (fun i => z (i + 1)) (by omega) hq.out v (fun j hj => cell_later hv (hl.out j (by omega))) (fun j hj => by
      have := cell_later hv (hl.out (j + 1) (by omega))
      rcases ho with ho | ho
      · omega
      · rw [show off + (j + 1) = off2 + j from by omega] at this; exact this)
  generalize allTo (fun i => besideF H (z i) (z (i + 1))) n = R at *
  have hne := BW.some w
  clear hq hl
  by_cases h1 : cap = 1
  · obtain rfl : n = 0 := by omega
    subst h1
    rcases hH with rfl | rfl
    all_goals
      go_enter Tryz.func73, Tryz.ntmps73
      go_wp2_with fail
      refine region_in (C := fun w' => ∃ s : BW w, w' = s.w) (by kernel_rfl) (by kernel_rfl) ⟨⟨w.drew, (Below.refl _ _).drew⟩, rfl⟩ ?_
      repeat (go_big_quiet_step (first
        | (go_at_call 100; rename_i s; refine (HCC.out s.w _ off _ s.ok (.inl trivial)).mono ?_; rintro e wx ⟨rfl, hbx⟩; exact ⟨rfl, ⟨wx, bel2 s.ok hbx⟩, rfl⟩)))
      refine wpQuiet_nil ?_
      intro _ hw'
      obtain ⟨s, hw''⟩ := hw'
      subst hw''
      have HE : Hid (Below w.heap.size w s.w) := s.ok
      clear hne
      go_wp2
      go_ret
      exact ⟨rfl, HE.out⟩
  · have j0 : (0 : Int) ≤ (n : Int) := Int.natCast_nonneg _
    have j1 : (n : Int) ≤ (cap : Int) := by omega
    have j2 : (1 : Int) ≤ (n : Int) + 1 := by omega
    have j3 : n ≤ cap := by omega
    have hw : IntKind.i64.wrap (n : Int) = (n : Int) := by rw [IntKind.wrap_i64]; omega
    rcases hH with rfl | rfl
    all_goals
      go_enter Tryz.func73, Tryz.ntmps73
      go_wp2_with fail
      refine region_in (C := fun w' => ∃ s : BW w, w' = s.w) (by kernel_rfl) (by kernel_rfl) ⟨⟨w.drew, (Below.refl _ _).drew⟩, rfl⟩ ?_
      repeat (go_big_quiet_step (first
        | (go_at_call 100; rename_i s; refine (HCC.out s.w _ (off + 1) _ s.ok (.inr rfl)).mono ?_; rintro e wx ⟨rfl, hbx⟩; exact ⟨rfl, ⟨wx, bel2 s.ok hbx⟩, rfl⟩)))
      refine wpQuiet_nil ?_
      intro _ hw'
      obtain ⟨s, hw''⟩ := hw'
      subst hw''
      have HE : Hid (Below w.heap.size w s.w) := s.ok
      clear hne
      go_wp2
      go_ret
      exact ⟨rfl, HE.out⟩
set_option maxRecDepth 20000 in
set_option maxHeartbeats 3200000 in
theorem isRun_w (B bytes f : Nat) (ih : Hid (MayC B bytes f)) (ns : List Nd) (oT : Option Addr) (capT : Nat) (at' : Int) (a : Arr) (o : Option Addr) (cap : Nat) (ho : Ok a) (R : Bool) (w : World) (ht : Hid (IsT w oT ns)) (hh : Hid (HoldsF B bytes w (f + 1) (a.cells o cap) a))
    (hR : Hid (∀ okb m, okb = (decide (a.kids.length = 1) && decide ((kidAt a 0).layout = 0) && mayZ ns at' f (kidAt a 0)) → (okb = true → m = (kidAt a 0).length) → (R = true ↔ okb = true ∧ a.valid.size = 0 ∧ a.ends.size = 0 ∧ (a.data.size : Int) = 4 * m ∧ all4 a.data m.toNat = true ∧ rowsOf a ≤ prev a.data m.toNat ∧ riseE a.data m.toNat = true))) :
    Calls Tryz.prog 35 #[.agg #[.slice oT ns.length capT], .int .i64 at', a.val o cap] w fun r w' => r = .returned (.bool R) ∧ Below w.heap.size w w' := by
  obtain ⟨k, ok, ck, okb, hb, hokb, hkk⟩ := baseC B bytes f ih.out ns oT capT at' a o cap w ht.out hh.out
  have HR : Hid (R = true ↔ okb = true ∧ a.valid.size = 0 ∧ a.ends.size = 0 ∧ (a.data.size : Int) = 4 * k.length ∧ all4 a.data k.length.toNat = true ∧ rowsOf a ≤ prev a.data k.length.toNat ∧ riseE a.data k.length.toNat = true) := hR.out okb k.length hokb (fun h => by rw [hkk h])
  have HKL : Hid (okb = true → 0 ≤ k.length ∧ k.length ≤ 64) := fun h => by
    rw [hkk h]
    rw [hokb, Bool.and_eq_true] at h
    exact mayZ_len h.2
  obtain ⟨w1, e1, s1, c1, b1⟩ := boxed w (.slice oT ns.length capT) 27
  obtain ⟨w2, e2, x2, b2, z2⟩ := box7 w1 a o cap
  have B2 : Hid (Below w.heap.size w w2) := bel2 b1 b2
  have HB : Hid (Calls Tryz.prog 69 #[.agg #[.slice oT ns.length capT], .int .i64 at', a.val o cap] w2 fun r w' => r = .returned (.tuple #[k.val ok ck, .bool okb]) ∧ Below w2.heap.size w2 w') := hb w2 B2.out
  have X2 : Hid (Bx w2 w1.heap.size a o cap) := x2
  have cT := cell_later b2 c1
  have d0 := x2.c0
  have d1 := x2.c1
  have d2 := x2.c2
  have d3 := x2.c3
  have d4 := x2.c4
  have d5 := x2.c5
  have d6 := x2.c6
  have HO : Hid (Ok a) := ho
  unfold Arr.val at HB ⊢
  clear hb hokb hkk b1 b2 x2 z2 s1 c1 ih ht hh hR ho
  obtain ⟨i3, hi3, hz0, hz1, hz2⟩ := info_parts info3
  have HI3 : Hid (Tryz.prog.info? 3 = some i3 ∧ i3.zero = some (.int .i64 0) ∧ i3.size = 1 ∧ i3.bytes = 8) := ⟨hi3, hz0, hz1, hz2⟩
  clear hi3 hz0 hz1 hz2
  have HFA : Hid (¬ (okb = true ∧ a.valid.size = 0 ∧ a.ends.size = 0 ∧ (a.data.size : Int) = 4 * k.length ∧ all4 a.data k.length.toNat = true) → R = false) := fun h => by
    cases c : R
    · rfl
    · have := HR.out.1 c
      exact absurd ⟨this.1, this.2.1, this.2.2.1, this.2.2.2.1, this.2.2.2.2.1⟩ h
  cases okb with
  | false =>
    have HN : Hid (R = false) := HFA.out (fun h => by cases h.1)
    go_enter Tryz.func35, Tryz.ntmps35
    go_wp2_with fail
    refine HB.out.mono ?_
    rintro e w3 ⟨rfl, b3⟩
    have B3 : Hid (Below w2.heap.size w2 w3) := b3
    clear b3 d0 d1 d2 d3 d4 d5 d6 cT e1 e2
    obtain ⟨w4, e4, x4, b4, z4⟩ := box7 w3 k ok ck
    have B4 : Hid (Below w.heap.size w w4) := bel2 B2.out (bel2 B3.out b4)
    clear x4 b4 z4
    go_wp2
    go_ret
    exact ⟨ret_bool HN.out.symm, B4.out⟩
  | true =>
    obtain ⟨hl0, hl1⟩ := HKL.out rfl
    obtain ⟨L, hL⟩ := Int.eq_ofNat_of_zero_le hl0
    have hL64 : L ≤ 64 := by omega
    have HLL : Hid (k.length = (L : Int)) := hL
    have HLT : Hid (k.length.toNat = L) := by unfold Hid; omega
    clear hl0 hl1 hL HKL
    go_enter Tryz.func35, Tryz.ntmps35
    go_wp2_with fail
    refine HB.out.mono ?_
    rintro e w3 ⟨rfl, b3⟩
    have B3 : Hid (Below w2.heap.size w2 w3) := b3
    clear b3 d0 d1 d2 d3 d4 d5 d6 cT e1 e2
    obtain ⟨w4, e4, x4, b4, z4⟩ := box7 w3 k ok ck
    have X4 : Hid (Bx w4 w1.heap.size a o cap) := X2.out.later (bel2 B3.out b4)
    have K4 : Hid (Bx w4 w3.heap.size k ok ck) := x4
    have B4 : Hid (Below w.heap.size w w4) := bel2 B2.out (bel2 B3.out b4)
    have d3 := X4.out.c3
    have d4 := X4.out.c4
    have d5 := X4.out.c5
    have q2 := K4.out.c2
    rw [HLL.out] at q2
    clear x4 b4 z4
    by_cases hv : a.valid.size = 0
    · have HV : Hid (a.valid.size = 0) := hv
      rw [empty_of hv] at d3
      clear hv
      by_cases he : a.ends.size = 0
      · have HE : Hid (a.ends.size = 0) := he
        rw [empty_of he] at d4
        clear he
        by_cases hd : (a.data.size : Int) = 4 * (L : Int)
        · have HD : Hid ((a.data.size : Int) = 4 * (L : Int)) := hd
          have hd2 : (((a.data.size : Nat) : Int) != 4 * (L : Int)) = false := by rw [hd]; simp
          clear hd
          have hds : a.data.size ≤ 4096 := HO.out.data
          have HLa : Hid (a.length = a.length) := rfl
          cases h4 : all4 a.data L with
          | false =>
            have HN : Hid (R = false) := HFA.out (fun h => by have := h.2.2.2.2; rw [HLT.out, h4] at this; cases this)
            have HS : Hid (∀ v, Calls Tryz.prog 72 #[.string a.data, .int .i64 (L : Int)] v fun r w' => r = .returned (.tuple #[.slice none 0 0, .bool false]) ∧ Below v.heap.size v w') := fun v => shorts_no a.data L hds (by omega) h4 v
            clear h4
            go_wp2_with fail
            refine (HS.out w4).mono ?_
            rintro e w5 ⟨rfl, b5⟩
            have B5 : Hid (Below w.heap.size w w5) := bel2 B4.out b5
            have hown : (w5.alloc (.cells #[.int .i64 0] 3)).ownsRow w5.heap.size 3 1 (.slice (some ⟨w5.heap.size, 0, none⟩) 1 1) 1 (ints [0]) := by
              have := World.ownsRow_lit (base := w5.heap.size) (e := 3) (size := 1) w5 #[.int .i64 0] 1 (Nat.le_refl _) (by unfold maxLen; omega) rfl
              simpa [ints] using this
            have B6 : Hid (Below w.heap.size w (w5.alloc (.cells #[.int .i64 0] 3))) := bel2 B5.out ((Below.refl _ _).alloc (Nat.le_refl _) _)
            clear b5
            go_wp2_with (at_builtin; refine wpList_append_own_none rfl (.tmp 46) (.tmp 47) 60 rfl w5.heap.size 3 i3 1 Tryz.underlying60 HI3.out.1 _ 1 _ rfl hown rfl ?_)
            generalize w5.alloc (.cells #[.int .i64 0] 3) = w6 at *
            clear hown
            go_wp2_with fail
            go_quiet (fail)
            go_wp2
            go_ret
            exact ⟨ret_bool HN.out.symm, bel2 B6.out (drewN_below _ _)⟩
          | true =>
            have H4 : Hid (all4 a.data L = true) := h4
            have HS : Hid (∀ v, Calls Tryz.prog 72 #[.string a.data, .int .i64 (L : Int)] v fun r w' => r = .returned (.tuple #[.slice (some ⟨v.heap.size, 0, none⟩) L L, .bool true]) ∧ Row w' v.heap.size L (endAt a.data) ∧ Below v.heap.size v w') := fun v => shorts_yes a.data L hds (by omega) h4 v
            clear h4
            go_wp2_with fail
            refine (HS.out w4).mono ?_
            rintro e w5 ⟨rfl, r5, b5⟩
            have B5 : Hid (Below w4.heap.size w4 w5) := b5
            have b6 : Below w5.heap.size w5 (w5.alloc (.cells #[.int .i64 0] 3)) := (Below.refl _ _).alloc (Nat.le_refl _) _
            have r6 := r5.later b6
            have hown : (w5.alloc (.cells #[.int .i64 0] 3)).ownsRow w5.heap.size 3 1 (.slice (some ⟨w5.heap.size, 0, none⟩) 1 1) 1 (ints [0]) := by
              have := World.ownsRow_lit (base := w5.heap.size) (e := 3) (size := 1) w5 #[.int .i64 0] 1 (Nat.le_refl _) (by unfold maxLen; omega) rfl
              simpa [ints] using this
            have hz6 : w5.heap.size ≤ (w5.alloc (.cells #[.int .i64 0] 3)).heap.size := b6.size
            clear b5 r5
            go_wp2_with (at_builtin; refine wpList_append_own _ rfl (.tmp 46) (.tmp 47) 60 rfl w5.heap.size 3 i3 (.int .i64 0) 1 8 Tryz.underlying60 HI3.out.1 HI3.out.2.1 HI3.out.2.2.1 HI3.out.2.2.2 rfl (by decide) _ 1 _ rfl hown ⟨w4.heap.size, 0, none⟩ L L (ints ((List.range L).map (endAt a.data))) rfl ?c0 ?c1 ?c2 ?c3 ?c4 ?c5 ?_)
            case c0 => simp [ints]
            case c1 =>
              intro j u hj
              unfold ints at hj
              rw [List.getElem?_map, List.getElem?_map] at hj
              have hjL : j < L := by
                by_cases c : j < L
                · exact c
                · rw [List.getElem?_eq_none (by simp; omega)] at hj; cases hj
              rw [List.getElem?_range hjL, Option.map_some, Option.map_some] at hj
              injection hj with hj
              rw [← hj, Addr.add_lit, Nat.zero_add]
              exact r6.cell j hjL
            case c2 => exact one_ints _
            case c3 => unfold maxLen; omega
            case c4 => omega
            case c5 => exact hz6
            intro v' w7 hown' hgrow _
            have b7 : Below w5.heap.size (w5.alloc (.cells #[.int .i64 0] 3)) w7 := (Below.refl _ _).grown hgrow (by omega) (fun j hj => (hown.lt j hj).1)
            have B7 : Hid (Below w4.heap.size w4 w7) := bel2 B5.out (b6.trans b7)
            obtain ⟨o7, c7, rfl⟩ := own_slice hown'
            have hown2 : w7.ownsRow w5.heap.size 3 1 (.slice o7 (runP a.data L).length c7) (runP a.data L).length (ints (runP a.data L)) := by
              rw [runP_len, Nat.add_comm L 1]
              have e : ints [0] ++ ints ((List.range L).map (endAt a.data)) = ints (runP a.data L) := by unfold runP ints; rw [List.map_append]
              rw [e] at hown'
              exact hown'
            have hI := own_ints hown2
            have hcap : L + 1 ≤ c7 := by
              rcases hown2.2 with ⟨h0, h1⟩ | ⟨g', cap', cur, h0, _, _, hle, _, _⟩
              · have : (runP a.data L).length = 0 := h1
                rw [runP_len] at this
                omega
              · injection h0 with _ _ h2
                rw [runP_len] at hle
                omega
            have hcm : c7 ≤ 9223372036854775807 := by
              rcases hown2.2 with ⟨h0, h1⟩ | ⟨g', cap', cur, h0, _, _, hle, hm, _⟩
              · have : (runP a.data L).length = 0 := h1
                rw [runP_len] at this
                omega
              · injection h0 with _ _ h2
                unfold maxLen at hm
                omega
            rcases hI with hI | ⟨g, rfl, _, hrow⟩
            · have := runP_len a.data L
              rw [hI] at this
              cases this
            have HROW : Hid (Row w7 g (L + 1) (fun i => (runP a.data L).getD i 0)) := by rw [runP_len] at hrow; exact hrow
            clear hown hown' hown2 hgrow b7 b6 r6 hrow
            have HRo : Hid (∀ v, Calls Tryz.prog 61 #[a.val o cap] v fun r w' => r = .returned (.int .i64 ((rowsOf a : Nat) : Int)) ∧ Below v.heap.size v w') := fun v => rows a o cap HO.out.off HO.out.len HO.out.rows v
            have HBs : Hid (∀ v, Below w7.heap.size w7 v → Calls Tryz.prog 73 #[.slice (some ⟨g, 0, none⟩) (L + 1) c7, .func (.func 74) #[] #[]] v fun r w' => r = .returned (.bool (riseE a.data L)) ∧ Below v.heap.size v w') := fun v hv => by
              have := beside2 74 (.inr rfl) g 0 c7 L (fun i => (((runP a.data L).getD i 0 : Nat) : Int)) (by omega) hcap hcm (fun k _ => .inr rfl) v (fun j hj => by rw [Nat.zero_add]; exact cell_later hv (HROW.out.cell j hj))
              rw [rise_all] at this
              exact this
            have HRR : Hid (R = true ↔ rowsOf a ≤ prev a.data L ∧ riseE a.data L = true) := by
              unfold Hid
              rw [HR.out, HLT.out, HLL.out]
              constructor
              · intro h
                exact h.2.2.2.2.2
              · intro h
                exact ⟨trivial, HV.out, HE.out, HD.out, H4.out, h⟩
            have X7 := X4.out.later B7.out
            have Y7 := K4.out.later B7.out
            have C := X7.cells
            have d0 := C.d0
            have d1 := C.d1
            have d2 := C.d2
            have d3 := C.d3
            have d4 := C.d4
            have d5 := C.d5
            have d6 := C.d6
            have q2 : ∀ s : BW w7, s.w.cell? ⟨w3.heap.size, 2, none⟩ = some (.int .i64 (L : Int)) := fun s => by have := (Y7.later s.ok).c2; rw [HLL.out] at this; exact this
            have t0 : ∀ s : BW w7, s.w.cell? ⟨g, L, none⟩ = some (.int .i64 ((prev a.data L : Nat) : Int)) := fun s => by have := cell_later s.ok (HROW.out.cell L (by omega)); rw [runP_at _ _ _ (Nat.le_refl _)] at this; exact this
            have hne := BW.some w7
            have BW7 : Hid (Below w.heap.size w w7) := bel2 B4.out B7.out
            have j1 : (L : Int) < (L : Int) + 1 := by omega
            have j2 : (0 : Int) ≤ (L : Int) := by omega
            unfold Arr.val at HRo
            clear C X7 Y7 hz6 hcap hcm HROW HS hds HLa HI3 HFA HB HR
            rw [Nat.add_comm 1 L]
            generalize prev a.data L = P at *
            generalize riseE a.data L = RS at *
            generalize rowsOf a = n at *
            by_cases hp : n ≤ P
            · have hp2 : (n : Int) ≤ (P : Int) := by omega
              have HN : Hid (R = RS) := by
                unfold Hid
                rw [Bool.eq_iff_iff, HRR.out]
                exact ⟨fun h => h.2, fun h => ⟨hp, h⟩⟩
              go_wp2_with fail
              refine region_in (C := fun w' => ∃ s : BW w7, w' = s.w) (by kernel_rfl) (by kernel_rfl) ⟨⟨w7.drew, (Below.refl _ _).drew⟩, rfl⟩ ?_
              repeat (go_big_quiet_step (first
                | (go_at_call 61; rename_i s; refine (HRo.out s.w).mono ?_; rintro e wx ⟨rfl, hbx⟩; exact ⟨rfl, ⟨wx, bel2 s.ok hbx⟩, rfl⟩)
                | (go_at_call 73; rename_i s; refine (HBs.out s.w s.ok).mono ?_; rintro e wx ⟨rfl, hbx⟩; exact ⟨rfl, ⟨wx, bel2 s.ok hbx⟩, rfl⟩)))
              refine wpQuiet_nil ?_
              intro _ hw'
              obtain ⟨s, hw''⟩ := hw'
              subst hw''
              have HE2 : Hid (Below w.heap.size w s.w) := bel2 BW7.out s.ok
              clear hne d0 d1 d2 d3 d4 d5 d6 q2 t0
              go_wp2
              go_ret
              exact ⟨ret_bool HN.out.symm, HE2.out⟩
            · have hp2 : ¬ (n : Int) ≤ (P : Int) := by omega
              have HN : Hid (R = false) := by
                unfold Hid
                cases c : R
                · rfl
                · exact absurd (HRR.out.1 c).1 hp
              go_wp2_with fail
              refine region_in (C := fun w' => ∃ s : BW w7, w' = s.w) (by kernel_rfl) (by kernel_rfl) ⟨⟨w7.drew, (Below.refl _ _).drew⟩, rfl⟩ ?_
              repeat (go_big_quiet_step (first
                | (go_at_call 61; rename_i s; refine (HRo.out s.w).mono ?_; rintro e wx ⟨rfl, hbx⟩; exact ⟨rfl, ⟨wx, bel2 s.ok hbx⟩, rfl⟩)
                | (go_at_call 73; rename_i s; refine (HBs.out s.w s.ok).mono ?_; rintro e wx ⟨rfl, hbx⟩; exact ⟨rfl, ⟨wx, bel2 s.ok hbx⟩, rfl⟩)))
              refine wpQuiet_nil ?_
              intro _ hw'
              obtain ⟨s, hw''⟩ := hw'
              subst hw''
              have HE2 : Hid (Below w.heap.size w s.w) := bel2 BW7.out s.ok
              clear hne d0 d1 d2 d3 d4 d5 d6 q2 t0
              go_wp2
              go_ret
              exact ⟨ret_bool HN.out.symm, HE2.out⟩
        · have HN : Hid (R = false) := HFA.out (fun h => hd (by have := h.2.2.2.1; rw [HLL.out] at this; exact this))
          have hd2 : (((a.data.size : Nat) : Int) != 4 * (L : Int)) = true := by rw [bne_iff_ne]; exact hd
          clear hd
          go_wp2
          go_ret
          exact ⟨ret_bool HN.out.symm, B4.out⟩
      · have HN : Hid (R = false) := HFA.out (fun h => he h.2.2.1)
        have hev := ne_empty he
        clear he
        go_wp2
        go_ret
        exact ⟨ret_bool HN.out.symm, B4.out⟩
    · have HN : Hid (R = false) := HFA.out (fun h => hv h.2.1)
      have hev := ne_empty hv
      clear hv
      go_wp2
      go_ret
      exact ⟨ret_bool HN.out.symm, B4.out⟩
end Go.Proofs.YthbjeedmhgnnaaaGreat.Arr
namespace Go.Proofs.YthbjeedmhgnnaaaGreat.Arr
open Go.ChangeShapes Go.WideShapes Go.ChangeAt Go.RowKit
open Tree Val

/-- What May asks of an array by runs. -/
def runA' (ns : List Nd) (f n : Nat) (a : Arr) : Bool := decide (a.kids.length = 1) && decide (a.ends.size = 0) && decide ((kidAt a 0).layout = 0) && mayF ns f n (kidAt a 0) && runB a
theorem isRun (B bytes f : Nat) (ih : MayC B bytes f) (ns : List Nd) (oT : Option Addr) (capT n : Nat) (hn : n < ns.length) (hm : may ns = true) (a : Arr) (o : Option Addr) (cap : Nat) (ho : Ok a) (w : World) (ht : IsT w oT ns) (hh : HoldsF B bytes w (f + 1) (a.cells o cap) a) :
    Calls Tryz.prog 35 #[.agg #[.slice oT ns.length capT], .int .i64 (n : Int), a.val o cap] w fun r w' => r = .returned (.bool (runA' ns f n a)) ∧ Below w.heap.size w w' := by
  refine isRun_w B bytes f ih ns oT capT n a o cap ho _ w ht hh (fun okb m h1 h2 => ?_)
  rw [mayZ_kid hm hn] at h1
  unfold runA' runB
  rw [run_ends]
  constructor
  · intro h
    simp only [Bool.and_eq_true, decide_eq_true_eq] at h
    obtain ⟨⟨⟨⟨c1, c2⟩, c3⟩, c4⟩, ⟨⟨c5, c6⟩, c7⟩, c8⟩ := h
    have h3 : okb = true := by rw [h1, decide_eq_true c1, decide_eq_true c3, c4]; rfl
    obtain rfl := h2 h3
    exact ⟨h3, c5, c2, c6, c7.1, c8, c7.2⟩
  · rintro ⟨c1, c2, c3, c4, c5, c6, c7⟩
    obtain rfl := h2 c1
    rw [c1] at h1
    have h1 := h1.symm
    simp only [Bool.and_eq_true, decide_eq_true_eq] at h1
    simp only [Bool.and_eq_true, decide_eq_true_eq]
    exact ⟨⟨⟨⟨h1.1.1, c3⟩, h1.1.2⟩, h1.2⟩, ⟨⟨c2, c4⟩, c5, c7⟩, c6⟩
theorem head_eq (ns : List Nd) (n : Nat) (a : Arr) : headB ns n a = (hasRowsB a && (shortsOf a.valid a.ends a.data && lackB (nd ns n).null a)) := by
  rw [Bool.eq_iff_iff]
  unfold headB hasRowsB shortsOf lackB
  simp only [Bool.and_eq_true, decide_eq_true_eq, Bool.or_eq_true]
  constructor
  · rintro ⟨⟨⟨⟨⟨⟨h1, h2⟩, h3⟩, h4⟩, h5⟩, h6⟩, h7⟩
    exact ⟨⟨h1, h2, h3⟩, ⟨⟨h4, h5⟩, h6⟩, h7⟩
  · rintro ⟨⟨h1, h2, h3⟩, ⟨⟨h4, h5⟩, h6⟩, h7⟩
    exact ⟨⟨⟨⟨⟨⟨h1, h2⟩, h3⟩, h4⟩, h5⟩, h6⟩, h7⟩
theorem ok_of {a : Arr} (h1 : hasRowsB a = true) (h2 : shortsOf a.valid a.ends a.data = true) : Ok a := by
  unfold hasRowsB at h1
  unfold shortsOf at h2
  simp only [Bool.and_eq_true, decide_eq_true_eq] at h1 h2
  exact ⟨h1.1, h1.2.1, h1.2.2, h2.1.1, h2.1.2, h2.2⟩
theorem lack_of {null : Bool} {a : Arr} (h : lackB null a = true) : a.valid.size = 0 ∨ rowsOf a ≤ 8 * a.valid.size := by
  unfold lackB at h
  simp only [Bool.and_eq_true, decide_eq_true_eq, Bool.or_eq_true] at h
  omega
/-- What is asked once the head may be. -/
def layB (ns : List Nd) (f n : Nat) (a : Arr) : Bool := if a.layout = 0 then plainB (mayF ns f) ns n a else if a.layout = 1 then isLeafB (nd ns n).kind && dictA' ns f n a else if a.layout = 2 then isLeafB (nd ns n).kind && runA' ns f n a else false
theorem leaf_eq {ns : List Nd} (hm : may ns = true) {n : Nat} (hn : n < ns.length) : Tree.isLeaf (nd ns n).kind = isLeafB (nd ns n).kind := by
  have := (may_of hm).kind n hn
  generalize (nd ns n).kind = k at *
  rcases (show k = 0 ∨ k = 1 ∨ k = 2 ∨ k = 3 ∨ k = 4 from by omega) with rfl | rfl | rfl | rfl | rfl <;> decide
theorem may_lay {ns : List Nd} (hm : may ns = true) {n : Nat} (hn : n < ns.length) (f : Nat) (a : Arr) : mayF ns (f + 1) n a = (headB ns n a && layB ns f n a) := by
  unfold mayF layB
  rw [leaf_eq hm hn]
  unfold dictA' runA'
  by_cases c0 : a.layout = 0
  · rw [if_pos c0, if_pos c0]
  · rw [if_neg c0, if_neg c0]
    by_cases c1 : a.layout = 1
    · rw [if_pos c1, if_pos c1]
      simp only [Bool.and_assoc]
    · rw [if_neg c1, if_neg c1]
      by_cases c2 : a.layout = 2
      · rw [if_pos c2, if_pos c2]
        simp only [Bool.and_assoc]
      · rw [if_neg c2, if_neg c2]
        simp
theorem short_box (v : World) (a : Arr) : (v.alloc (.cells #[.string a.valid, .string a.ends, .string a.data] 9)).cell? ⟨v.heap.size, 0, none⟩ = some (.string a.valid) ∧ (v.alloc (.cells #[.string a.valid, .string a.ends, .string a.data] 9)).cell? ⟨v.heap.size, 1, none⟩ = some (.string a.ends) ∧ (v.alloc (.cells #[.string a.valid, .string a.ends, .string a.data] 9)).cell? ⟨v.heap.size, 2, none⟩ = some (.string a.data) :=
  ⟨by rw [World.cell?, heap_alloc_new]; rfl, by rw [World.cell?, heap_alloc_new]; rfl, by rw [World.cell?, heap_alloc_new]; rfl⟩
end Go.Proofs.YthbjeedmhgnnaaaGreat.Arr
