/-
  Several texts in one: Whether a plain array of a list, of a struct may be; isPlain of any node: contracts. · The plain array that another layout stands on: base: contract. · Arrays by a dictionary: isDict: contract.
-/
import Derived.Test.YtcpfhfdgfcilaaaGreatDoorR06
import Derived.Deep.RegionHeld3
namespace Go.Proofs.YtcpfhfdgfcilaaaGreatDoor.Arr
open Go.ChangeShapes Go.WideShapes Go.ChangeAt Go.RowKit
open Tree Val

set_option maxRecDepth 20000 in
set_option maxHeartbeats 3200000 in
theorem plainList (B bytes f : Nat) (ih : Hid (MayC B bytes f)) (ns : List Nd) (oT : Option Addr) (capT n : Nat) (hn : n < ns.length) (hm : may ns = true) (g cK : Nat) (a : Arr) (o : Option Addr) (cap : Nat) (ho : Hid (Ok a)) (hk : (nd ns n).kind = 3) (w : World) (ht : IsT w oT ns)
    (hr : Hid (IntsAt w g 0 (kids ns n).length (fun i => (((kids ns n).getD i 0 : Nat) : Int)))) (hh : Hid (HoldsF B bytes w (f + 1) (a.cells o cap) a)) :
    Calls Tryz.prog 73 #[.agg #[.slice oT ns.length capT], .int .i64 (n : Int), .slice (some ⟨g, 0, none⟩) (kids ns n).length cK, a.val o cap] w fun r w' => r = .returned (.bool (plainB (mayF ns f) ns n a)) ∧ Below w.heap.size w w' := by
  obtain ⟨w1, w2, w3, e1, e2, e3, hb⟩ := boxs w oT (some ⟨g, 0, none⟩) ns.length capT (kids ns n).length cK a o cap
  obtain ⟨x, rfl, hl⟩ := ht.some (by omega)
  have h1 : (kids ns n).length = 1 := (may_of hm).list n hn hk
  have B3 : Hid (Below w.heap.size w w3) := hb.below
  have hl3 := hl.later hb.below
  have c0 := hl3.kind' n hn
  rw [hk] at c0
  have cT := hb.ty
  have j0 : (0 : Int) ≤ (n : Int) := Int.natCast_nonneg _
  have j1 : (n : Int) < (ns.length : Int) := by omega
  have d5 := hb.bx.c5
  have HP : Hid (plainB (mayF ns f) ns n a = (decide (a.data.size = 0) && pairB 130 ns f (kids ns n) a)) := plain_list hm hk h1
  have HC : Hid (Calls Tryz.prog 125 #[.func (.func 130) #[] #[.pointer (some ⟨w2.heap.size, 0, none⟩)], .pointer (some ⟨w1.heap.size, 0, none⟩), .pointer (some ⟨w2.heap.size, 0, none⟩), .pointer (some ⟨w.heap.size, 0, none⟩)] w3 fun r w' => r = .returned (.bool (pairB 130 ns f (kids ns n) a)) ∧ Below w3.heap.size w3 w') :=
    belowC B bytes f ih 130 (.inl rfl) w1.heap.size w2.heap.size w.heap.size a o cap ho ns (some x) capT g cK (kids ns n) (by omega) (by omega) w3 (hr.out.later hb.below) hb.ks hb.ty hb.bx (ht.later hb.below) (hh.out.later hb.below)
  unfold Arr.val
  clear hb ho hl hl3 ht hr hh ih h1
  generalize plainB (mayF ns f) ns n a = R at *
  generalize pairB 130 ns f (kids ns n) a = Q at *
  generalize (kids ns n).length = nk at *
  by_cases he : a.data.size = 0
  · have hev := empty_of he
    rw [decide_eq_true he, Bool.true_and] at HP
    clear he
    generalize a.data = v at *
    subst hev
    go_enter Tryz.func73, Tryz.ntmps73
    go_wp2_with fail
    refine HC.out.mono ?_
    rintro e w4 ⟨rfl, b4⟩
    go_wp2
    go_ret
    exact ⟨ret_bool HP.out.symm, bel2 B3.out b4⟩
  · have hev := ne_empty he
    rw [decide_eq_false he, Bool.false_and] at HP
    clear he
    go_enter Tryz.func73, Tryz.ntmps73
    go_wp2
    go_ret
    exact ⟨ret_bool HP.out.symm, B3.out⟩
set_option maxRecDepth 20000 in
set_option maxHeartbeats 3200000 in
theorem plainStruct (B bytes f : Nat) (ih : Hid (MayC B bytes f)) (ns : List Nd) (oT : Option Addr) (capT n : Nat) (hn : n < ns.length) (hm : may ns = true) (g cK : Nat) (a : Arr) (o : Option Addr) (cap : Nat) (ho : Hid (Ok a)) (hk : (nd ns n).kind = 4) (w : World) (ht : IsT w oT ns)
    (hr : Hid (IntsAt w g 0 (kids ns n).length (fun i => (((kids ns n).getD i 0 : Nat) : Int)))) (hh : Hid (HoldsF B bytes w (f + 1) (a.cells o cap) a)) :
    Calls Tryz.prog 73 #[.agg #[.slice oT ns.length capT], .int .i64 (n : Int), .slice (some ⟨g, 0, none⟩) (kids ns n).length cK, a.val o cap] w fun r w' => r = .returned (.bool (plainB (mayF ns f) ns n a)) ∧ Below w.heap.size w w' := by
  obtain ⟨w1, w2, w3, e1, e2, e3, hb⟩ := boxs w oT (some ⟨g, 0, none⟩) ns.length capT (kids ns n).length cK a o cap
  obtain ⟨x, rfl, hl⟩ := ht.some (by omega)
  have h1 : 1 ≤ (kids ns n).length := (may_of hm).struct n hn hk
  have h8 : (kids ns n).length ≤ 8 := by have h1 := length_kidsTo ns n ns.length; have h2 := (may_of hm).most; show (kidsTo ns n ns.length).length ≤ 8; omega
  have B3 : Hid (Below w.heap.size w w3) := hb.below
  have hl3 := hl.later hb.below
  have c0 := hl3.kind' n hn
  rw [hk] at c0
  have cT := hb.ty
  have j0 : (0 : Int) ≤ (n : Int) := Int.natCast_nonneg _
  have j1 : (n : Int) < (ns.length : Int) := by omega
  have d4 := hb.bx.c4
  have d5 := hb.bx.c5
  have HP : Hid (plainB (mayF ns f) ns n a = (decide (a.ends.size = 0) && decide (a.data.size = 0) && pairB 131 ns f (kids ns n) a)) := plain_struct hm hk
  have HC : Hid (Calls Tryz.prog 125 #[.func (.func 131) #[] #[.pointer (some ⟨w2.heap.size, 0, none⟩)], .pointer (some ⟨w1.heap.size, 0, none⟩), .pointer (some ⟨w2.heap.size, 0, none⟩), .pointer (some ⟨w.heap.size, 0, none⟩)] w3 fun r w' => r = .returned (.bool (pairB 131 ns f (kids ns n) a)) ∧ Below w3.heap.size w3 w') :=
    belowC B bytes f ih 131 (.inr rfl) w1.heap.size w2.heap.size w.heap.size a o cap ho ns (some x) capT g cK (kids ns n) h1 h8 w3 (hr.out.later hb.below) hb.ks hb.ty hb.bx (ht.later hb.below) (hh.out.later hb.below)
  unfold Arr.val
  clear hb ho hl hl3 ht hr hh ih h1 h8
  generalize plainB (mayF ns f) ns n a = R at *
  generalize pairB 131 ns f (kids ns n) a = Q at *
  generalize (kids ns n).length = nk at *
  by_cases he : a.ends.size = 0
  · have hev := empty_of he
    rw [decide_eq_true he, Bool.true_and] at HP
    clear he
    generalize a.ends = v at *
    subst hev
    by_cases he : a.data.size = 0
    · have hev := empty_of he
      rw [decide_eq_true he, Bool.true_and] at HP
      clear he
      generalize a.data = v at *
      subst hev
      go_enter Tryz.func73, Tryz.ntmps73
      go_wp2_with fail
      refine HC.out.mono ?_
      rintro e w4 ⟨rfl, b4⟩
      go_wp2
      go_ret
      exact ⟨ret_bool HP.out.symm, bel2 B3.out b4⟩
    · have hev := ne_empty he
      rw [decide_eq_false he, Bool.false_and] at HP
      clear he
      go_enter Tryz.func73, Tryz.ntmps73
      go_wp2
      go_ret
      exact ⟨ret_bool HP.out.symm, B3.out⟩
  · have hev := ne_empty he
    rw [decide_eq_false he, Bool.false_and, Bool.false_and] at HP
    clear he
    go_enter Tryz.func73, Tryz.ntmps73
    go_wp2
    go_ret
    exact ⟨ret_bool HP.out.symm, B3.out⟩
/-- isPlain, of any node. -/
theorem isPlain (B bytes f : Nat) (ih : Hid (MayC B bytes f)) (ns : List Nd) (oT : Option Addr) (capT n : Nat) (hn : n < ns.length) (hm : may ns = true) (oK : Option Addr) (cK b : Nat) (a : Arr) (o : Option Addr) (cap : Nat) (ho : Ok a) (w : World) (ht : IsT w oT ns)
    (hr : IsI w b oK (kids ns n)) (hh : HoldsF B bytes w (f + 1) (a.cells o cap) a) :
    Calls Tryz.prog 73 #[.agg #[.slice oT ns.length capT], .int .i64 (n : Int), .slice oK (kids ns n).length cK, a.val o cap] w fun r w' => r = .returned (.bool (plainB (mayF ns f) ns n a)) ∧ Below w.heap.size w w' := by
  have hk := (may_of hm).kind n hn
  rcases (show (nd ns n).kind = 0 ∨ (nd ns n).kind = 1 ∨ (nd ns n).kind = 2 ∨ (nd ns n).kind = 3 ∨ (nd ns n).kind = 4 from by omega) with c | c | c | c | c
  · exact plainInt ns oT capT n hn oK _ cK a o cap ho c f w ht
  · exact plainBool ns oT capT n hn oK _ cK a o cap ho c f w ht
  · exact plainBytes ns oT capT n hn oK _ cK a o cap ho c f w ht
  · have h1 : (kids ns n).length = 1 := (may_of hm).list n hn c
    rcases hr with e | ⟨g, rfl, _, hrow⟩
    · rw [e] at h1; cases h1
    · exact plainList B bytes f ih ns oT capT n hn hm g cK a o cap ho c w ht (fun j hj => by have := hrow.cell j hj; rw [Nat.zero_add]; exact this) hh
  · have h1 : 1 ≤ (kids ns n).length := (may_of hm).struct n hn c
    rcases hr with e | ⟨g, rfl, _, hrow⟩
    · rw [e] at h1; cases h1
    · exact plainStruct B bytes f ih ns oT capT n hn hm g cK a o cap ho c w ht (fun j hj => by have := hrow.cell j hj; rw [Nat.zero_add]; exact this) hh
end Go.Proofs.YtcpfhfdgfcilaaaGreatDoor.Arr
namespace Go.Proofs.YtcpfhfdgfcilaaaGreatDoor.Arr
open Go.ChangeShapes Go.WideShapes Go.ChangeAt Go.RowKit
open Tree Val

/-- All blocks but one are as they were. -/
structure Mv (b : Nat) (w w' : World) : Prop where
  os : w'.os = w.os
  tape : w'.tape = w.tape
  output : w'.output = w.output
  size : w.heap.size ≤ w'.heap.size
  block : ∀ k, k < w.heap.size → k ≠ b → w'.heap[k]? = w.heap[k]?
theorem Mv.trans {b : Nat} {u v w : World} (h : Mv b u v) (k : Mv b v w) : Mv b u w :=
  ⟨k.os.trans h.os, k.tape.trans h.tape, k.output.trans h.output, Nat.le_trans h.size k.size, fun i hi hb => (k.block i (Nat.lt_of_lt_of_le hi h.size) hb).trans (h.block i hi hb)⟩
theorem Mv.set (b : Nat) (w : World) (o : Nat) (v : Value) : Mv b w (w.setCell ⟨b, o, none⟩ v) := ⟨rfl, rfl, rfl, by simp [World.setCell], fun k _ hk => Below.heap_setCell _ _ _ _ hk⟩
theorem Mv.below {b B : Nat} {w w' : World} (h : Mv b w w') (hB : B ≤ b) (hw : B ≤ w.heap.size) : Below B w w' := ⟨h.os, h.tape, h.output, h.size, fun k hk => h.block k (by omega) (by omega)⟩
theorem Bx.put {w : World} {g : Nat} {a : Arr} {o : Option Addr} {cap : Nat} (h : Bx w g a o cap) (k : Arr) (ok : Option Addr) (ck : Nat) :
    ∃ w1, ((((((w.setCell ⟨g, 0, none⟩ (.int .i64 k.layout)).setCell ⟨g, 1, none⟩ (.int .i64 k.offset)).setCell ⟨g, 2, none⟩ (.int .i64 k.length)).setCell ⟨g, 3, none⟩ (.string k.valid)).setCell ⟨g, 4, none⟩ (.string k.ends)).setCell ⟨g, 5, none⟩ (.string k.data)).setCell ⟨g, 6, none⟩ (.slice ok k.kids.length ck) = w1 ∧ Bx w1 g k ok ck ∧ Mv g w w1 := by
  refine ⟨_, rfl, ⟨?_⟩, (((((((Mv.set g w 0 _).trans (Mv.set g _ 1 _)).trans (Mv.set g _ 2 _)).trans (Mv.set g _ 3 _)).trans (Mv.set g _ 4 _)).trans (Mv.set g _ 5 _)).trans (Mv.set g _ 6 _))⟩
  simp only [World.setCell, Array.getElem?_modify, if_true, h.blk, Option.map_some]
  rfl
theorem cell_move {b : Nat} {w w' : World} (hm : Mv b w w') {p : Addr} {v : Value} (h : w.cell? p = some v) (hb : p.block ≠ b) : w'.cell? p = some v := by
  have hlt := World.block_lt_of_cell? _ _ h
  have := hm.block p.block hlt hb
  unfold World.cell? at h ⊢
  rw [this]
  exact h
def nilVal : Value := .agg #[.int .i64 0, .int .i64 0, .int .i64 0, .string ⟨#[]⟩, .string ⟨#[]⟩, .string ⟨#[]⟩, .slice none 0 0]
theorem box0 (w : World) : ∃ w1, w.alloc (.cells #[.int .i64 0, .int .i64 0, .int .i64 0, .string ⟨#[]⟩, .string ⟨#[]⟩, .string ⟨#[]⟩, .slice none 0 0] 27) = w1 ∧ Bx w1 w.heap.size nil none 0 ∧ Below w.heap.size w w1 ∧ w.heap.size < w1.heap.size :=
  ⟨_, rfl, ⟨heap_alloc_new _ _⟩, (Below.refl _ _).alloc (Nat.le_refl _) _, by simp⟩
set_option maxRecDepth 20000 in
set_option maxHeartbeats 3200000 in
theorem base_few (ns : List Nd) (oT : Option Addr) (capT : Nat) (at' : Int) (a : Arr) (o : Option Addr) (cap : Nat) (hq : a.kids.length ≠ 1) (w : World) :
    Calls Tryz.prog 132 #[.agg #[.slice oT ns.length capT], .int .i64 at', a.val o cap] w fun r w' => r = .returned (.tuple #[nilVal, .bool false]) ∧ Below w.heap.size w w' := by
  obtain ⟨w1, e1, s1, c1, b1⟩ := boxed w (.slice oT ns.length capT) 24
  obtain ⟨w2, e2, x2, b2, z2⟩ := box7 w1 a o cap
  obtain ⟨w3, e3, x3, b3, z3⟩ := box0 w2
  have B3 : Hid (Below w.heap.size w w3) := bel2 b1 (bel2 b2 b3)
  have x2' := x2.later b3
  have d6 := x2'.c6
  have q0 := x3.c0
  obtain ⟨w4, e4, x4, m4⟩ := x3.put nil none 0
  have B4 : Hid (Below w.heap.size w w4) := B3.out.trans (m4.below (by have := b1.size; have := b2.size; omega) (by have := b1.size; have := b2.size; have := b3.size; omega))
  have X3 : Hid (Bx w3 w2.heap.size nil none 0) := x3
  have X4 : Hid (Bx w4 w2.heap.size nil none 0) := x4
  have hq2 : (((a.kids.length : Nat) : Int) == 1) = false := by rw [beq_eq_false_iff_ne]; omega
  have f0 := x3.fz 0
  have f1 := x3.fz 1
  have f2 := x3.fz 2
  have f3 := x3.fz 3
  have f4 := x3.fz 4
  have f5 := x3.fz 5
  have f6 := x3.fz 6
  have q1 := x3.c1
  have q2 := x3.c2
  have q3 := x3.c3
  have q4 := x3.c4
  have q5 := x3.c5
  have q6 := x3.c6
  unfold Arr.val
  clear b1 b2 b3 x2 x2' x3 x4 m4 z2 z3 s1
  have E4 : Hid (_ = w4) := e4
  clear e4
  unfold nil at q0 q1 q2 q3 q4 q5 q6
  simp only [List.length_nil] at q6
  go_enter Tryz.func132, Tryz.ntmps132
  go_wp2_with fail
  rw [show (((((((w3.setCell ⟨w2.heap.size, 0, none⟩ (.int .i64 0)).setCell ⟨w2.heap.size, 1, none⟩ (.int .i64 0)).setCell ⟨w2.heap.size, 2, none⟩ (.int .i64 0)).setCell ⟨w2.heap.size, 3, none⟩ (.string ⟨#[]⟩)).setCell ⟨w2.heap.size, 4, none⟩ (.string ⟨#[]⟩)).setCell ⟨w2.heap.size, 5, none⟩ (.string ⟨#[]⟩)).setCell ⟨w2.heap.size, 6, none⟩ (.slice none 0 0)) = w4 from E4.out]
  have y0 := X4.out.c0
  have y1 := X4.out.c1
  have y2 := X4.out.c2
  have y3 := X4.out.c3
  have y4 := X4.out.c4
  have y5 := X4.out.c5
  have y6 := X4.out.c6
  exact bodyPost_ret (v := .tuple #[nilVal, .bool false]) (by simp [results, Tryz.results132, go_sem, y0, y1, y2, y3, y4, y5, y6]; rfl) rfl ⟨rfl, B4.out⟩
set_option maxRecDepth 20000 in
set_option maxHeartbeats 3200000 in
theorem base_lay (ns : List Nd) (oT : Option Addr) (capT : Nat) (at' : Int) (a : Arr) (o : Option Addr) (cap : Nat) (hq : a.kids.length = 1) (k : Arr) (x : Addr) (ok : Option Addr) (ck : Nat) (ho : o = some x) (hl : k.layout ≠ 0) (w : World) (hk : Kid w x k ok ck) :
    Calls Tryz.prog 132 #[.agg #[.slice oT ns.length capT], .int .i64 at', a.val o cap] w fun r w' => r = .returned (.tuple #[nilVal, .bool false]) ∧ Below w.heap.size w w' := by
  obtain ⟨w1, e1, s1, c1, b1⟩ := boxed w (.slice oT ns.length capT) 24
  obtain ⟨w2, e2, x2, b2, z2⟩ := box7 w1 a o cap
  obtain ⟨w3, e3, x3, b3, z3⟩ := box0 w2
  have B3 : Hid (Below w.heap.size w w3) := bel2 b1 (bel2 b2 b3)
  have x2' := x2.later b3
  have d6 := x2'.c6
  have q0 := x3.c0
  obtain ⟨w4, e4, x4, m4⟩ := x3.put nil none 0
  have B4 : Hid (Below w.heap.size w w4) := B3.out.trans (m4.below (by have := b1.size; have := b2.size; omega) (by have := b1.size; have := b2.size; have := b3.size; omega))
  have X3 : Hid (Bx w3 w2.heap.size nil none 0) := x3
  have X4 : Hid (Bx w4 w2.heap.size nil none 0) := x4
  have r0 := (hk.later B3.out).k0
  have hl2 : (k.layout == 0) = false := by rw [beq_eq_false_iff_ne]; exact hl
  have f0 := x3.fz 0
  have f1 := x3.fz 1
  have f2 := x3.fz 2
  have f3 := x3.fz 3
  have f4 := x3.fz 4
  have f5 := x3.fz 5
  have f6 := x3.fz 6
  have q1 := x3.c1
  have q2 := x3.c2
  have q3 := x3.c3
  have q4 := x3.c4
  have q5 := x3.c5
  have q6 := x3.c6
  subst ho
  unfold Arr.val
  rw [hq] at d6 e2 ⊢
  clear hq hl hk
  clear b1 b2 b3 x2 x2' x3 x4 m4 z2 z3 s1
  have E4 : Hid (_ = w4) := e4
  clear e4
  unfold nil at q0 q1 q2 q3 q4 q5 q6
  simp only [List.length_nil] at q6
  go_enter Tryz.func132, Tryz.ntmps132
  go_wp2_with fail
  rw [show (((((((w3.setCell ⟨w2.heap.size, 0, none⟩ (.int .i64 0)).setCell ⟨w2.heap.size, 1, none⟩ (.int .i64 0)).setCell ⟨w2.heap.size, 2, none⟩ (.int .i64 0)).setCell ⟨w2.heap.size, 3, none⟩ (.string ⟨#[]⟩)).setCell ⟨w2.heap.size, 4, none⟩ (.string ⟨#[]⟩)).setCell ⟨w2.heap.size, 5, none⟩ (.string ⟨#[]⟩)).setCell ⟨w2.heap.size, 6, none⟩ (.slice none 0 0)) = w4 from E4.out]
  have y0 := X4.out.c0
  have y1 := X4.out.c1
  have y2 := X4.out.c2
  have y3 := X4.out.c3
  have y4 := X4.out.c4
  have y5 := X4.out.c5
  have y6 := X4.out.c6
  exact bodyPost_ret (v := .tuple #[nilVal, .bool false]) (by simp [results, Tryz.results132, go_sem, y0, y1, y2, y3, y4, y5, y6]; rfl) rfl ⟨rfl, B4.out⟩
theorem add_zero (x : Addr) : x.add (0 * 7) = x := by
  rw [Nat.zero_mul]
  unfold Addr.add
  split <;> simp_all
set_option maxRecDepth 20000 in
set_option maxHeartbeats 3200000 in
theorem base_yes (B bytes f : Nat) (ih : Hid (MayC B bytes f)) (ns : List Nd) (oT : Option Addr) (capT : Nat) (at' : Int) (a : Arr) (cap : Nat) (hq : a.kids.length = 1) (k : Arr) (x : Addr) (ok : Option Addr) (ck : Nat) (hl : k.layout = 0) (w : World) (ht : Hid (IsT w oT ns)) (hk : Hid (Kid w x k ok ck)) (hh : Hid (HoldsF B bytes w f (k.cells ok ck) k)) :
    Calls Tryz.prog 132 #[.agg #[.slice oT ns.length capT], .int .i64 at', a.val (some x) cap] w fun r w' => r = .returned (.tuple #[k.val ok ck, .bool (mayZ ns at' f k)]) ∧ Below w.heap.size w w' := by
  obtain ⟨w1, e1, s1, c1, b1⟩ := boxed w (.slice oT ns.length capT) 24
  obtain ⟨w2, e2, x2, b2, z2⟩ := box7 w1 a (some x) cap
  obtain ⟨w3, e3, x3, b3, z3⟩ := box0 w2
  have b03 := bel2 b1 (bel2 b2 b3)
  have B3 : Hid (Below w.heap.size w w3) := b03
  have d6 := (x2.later b3).c6
  have X2 : Hid (Bx w3 w1.heap.size a (some x) cap) := x2.later b3
  have cT := cell_later b3 (cell_later b2 c1)
  have K3 := hk.out.later b03
  have KK : Hid (Kid w3 x k ok ck) := K3
  have r0 := K3.k0
  have r1 := K3.k1
  have r2 := K3.k2
  have r3 := K3.k3
  have r4 := K3.k4
  have r5 := K3.k5
  have r6 := K3.k6
  have n1 : w2.heap.size ≠ w.heap.size := by have := b1.size; omega
  have n2 : w2.heap.size ≠ w1.heap.size := by omega
  have HM : Hid (∀ v, Below w.heap.size w v → Calls Tryz.prog 44 #[.agg #[.slice oT ns.length capT], .int .i64 at', k.val ok ck] v fun r w' => r = .returned (.bool (mayZ ns at' f k)) ∧ Below v.heap.size v w') := fun v hv => ih.out ns oT capT at' k ok ck v (ht.out.later hv) (hh.out.later hv)
  have X3 : Hid (Bx w3 w2.heap.size nil none 0) := x3
  have Z : Hid (w.heap.size ≤ w2.heap.size ∧ w.heap.size ≤ w3.heap.size) := by have := b1.size; have := b2.size; have := b3.size; exact ⟨by omega, by omega⟩
  have f0 := x3.fz 0
  have f1 := x3.fz 1
  have f2 := x3.fz 2
  have f3 := x3.fz 3
  have f4 := x3.fz 4
  have f5 := x3.fz 5
  have f6 := x3.fz 6
  have q0 := x3.c0
  have q1 := x3.c1
  have q2 := x3.c2
  have q3 := x3.c3
  have q4 := x3.c4
  have q5 := x3.c5
  have q6 := x3.c6
  unfold Arr.val at HM ⊢
  clear b1 b2 b3 x2 x3 z2 z3 s1 b03 K3 ht hh ih c1
  rw [hq] at d6 e2 ⊢
  clear hq
  generalize mayZ ns at' f k = Q at *
  unfold nil at q0 q1 q2 q3 q4 q5 q6
  simp only [List.length_nil] at q6
  rw [hl] at r0 HM
  have hxb : x.block ≠ w2.heap.size := by have := World.block_lt_of_cell? _ _ hk.out.k0; have := Z.out.1; omega
  have HL : Hid (k.layout = 0) := hl
  have KST : Hid (∀ W, Bx W w2.heap.size nil none 0 → w.heap.size ≤ W.heap.size → (fun W : World => Below w.heap.size w W ∧ W.cell? ⟨w.heap.size, 0, none⟩ = some (.slice oT ns.length capT) ∧ W.cell? ⟨w1.heap.size, 6, none⟩ = some (.slice (some x) 1 cap) ∧ W.cell? x = some (.int .i64 0) ∧ W.cell? { block := x.block, off := x.off + 1 } = some (.int .i64 k.offset) ∧ W.cell? { block := x.block, off := x.off + 2 } = some (.int .i64 k.length) ∧ W.cell? { block := x.block, off := x.off + 3 } = some (.string k.valid) ∧ W.cell? { block := x.block, off := x.off + 4 } = some (.string k.ends) ∧ W.cell? { block := x.block, off := x.off + 5 } = some (.string k.data) ∧ W.cell? { block := x.block, off := x.off + 6 } = some (.slice ok k.kids.length ck)) W → (fun W : World => Below w.heap.size w W ∧ W.cell? ⟨w.heap.size, 0, none⟩ = some (.slice oT ns.length capT) ∧ W.cell? ⟨w1.heap.size, 6, none⟩ = some (.slice (some x) 1 cap) ∧ W.cell? x = some (.int .i64 0) ∧ W.cell? { block := x.block, off := x.off + 1 } = some (.int .i64 k.offset) ∧ W.cell? { block := x.block, off := x.off + 2 } = some (.int .i64 k.length) ∧ W.cell? { block := x.block, off := x.off + 3 } = some (.string k.valid) ∧ W.cell? { block := x.block, off := x.off + 4 } = some (.string k.ends) ∧ W.cell? { block := x.block, off := x.off + 5 } = some (.string k.data) ∧ W.cell? { block := x.block, off := x.off + 6 } = some (.slice ok k.kids.length ck)) (((((((W.setCell ⟨w2.heap.size, 0, none⟩ (.int .i64 0)).setCell ⟨w2.heap.size, 1, none⟩ (.int .i64 k.offset)).setCell ⟨w2.heap.size, 2, none⟩ (.int .i64 k.length)).setCell ⟨w2.heap.size, 3, none⟩ (.string k.valid)).setCell ⟨w2.heap.size, 4, none⟩ (.string k.ends)).setCell ⟨w2.heap.size, 5, none⟩ (.string k.data)).setCell ⟨w2.heap.size, 6, none⟩ (.slice ok k.kids.length ck))) := by
    intro W hX hz
    rintro ⟨p0, p1, p2, p3, p4, p5, p6, p7, p8, p9⟩
    obtain ⟨w5, e5, x5, m5⟩ := hX.put k ok ck
    rw [HL.out] at e5
    rw [e5]
    exact ⟨p0.trans (m5.below Z.out.1 hz), cell_move m5 p1 (Ne.symm n1), cell_move m5 p2 (Ne.symm n2), cell_move m5 p3 hxb, cell_move m5 p4 hxb, cell_move m5 p5 hxb, cell_move m5 p6 hxb, cell_move m5 p7 hxb, cell_move m5 p8 hxb, cell_move m5 p9 hxb⟩
  have KLA : Hid (∀ W W', (fun W : World => Below w.heap.size w W ∧ W.cell? ⟨w.heap.size, 0, none⟩ = some (.slice oT ns.length capT) ∧ W.cell? ⟨w1.heap.size, 6, none⟩ = some (.slice (some x) 1 cap) ∧ W.cell? x = some (.int .i64 0) ∧ W.cell? { block := x.block, off := x.off + 1 } = some (.int .i64 k.offset) ∧ W.cell? { block := x.block, off := x.off + 2 } = some (.int .i64 k.length) ∧ W.cell? { block := x.block, off := x.off + 3 } = some (.string k.valid) ∧ W.cell? { block := x.block, off := x.off + 4 } = some (.string k.ends) ∧ W.cell? { block := x.block, off := x.off + 5 } = some (.string k.data) ∧ W.cell? { block := x.block, off := x.off + 6 } = some (.slice ok k.kids.length ck)) W → Below W.heap.size W W' → (fun W : World => Below w.heap.size w W ∧ W.cell? ⟨w.heap.size, 0, none⟩ = some (.slice oT ns.length capT) ∧ W.cell? ⟨w1.heap.size, 6, none⟩ = some (.slice (some x) 1 cap) ∧ W.cell? x = some (.int .i64 0) ∧ W.cell? { block := x.block, off := x.off + 1 } = some (.int .i64 k.offset) ∧ W.cell? { block := x.block, off := x.off + 2 } = some (.int .i64 k.length) ∧ W.cell? { block := x.block, off := x.off + 3 } = some (.string k.valid) ∧ W.cell? { block := x.block, off := x.off + 4 } = some (.string k.ends) ∧ W.cell? { block := x.block, off := x.off + 5 } = some (.string k.data) ∧ W.cell? { block := x.block, off := x.off + 6 } = some (.slice ok k.kids.length ck)) W') := by
    intro W W'
    rintro ⟨p0, p1, p2, p3, p4, p5, p6, p7, p8, p9⟩ hb
    exact ⟨bel2 p0 hb, cell_later hb p1, cell_later hb p2, cell_later hb p3, cell_later hb p4, cell_later hb p5, cell_later hb p6, cell_later hb p7, cell_later hb p8, cell_later hb p9⟩
  have K3 : Hid ((fun W : World => Below w.heap.size w W ∧ W.cell? ⟨w.heap.size, 0, none⟩ = some (.slice oT ns.length capT) ∧ W.cell? ⟨w1.heap.size, 6, none⟩ = some (.slice (some x) 1 cap) ∧ W.cell? x = some (.int .i64 0) ∧ W.cell? { block := x.block, off := x.off + 1 } = some (.int .i64 k.offset) ∧ W.cell? { block := x.block, off := x.off + 2 } = some (.int .i64 k.length) ∧ W.cell? { block := x.block, off := x.off + 3 } = some (.string k.valid) ∧ W.cell? { block := x.block, off := x.off + 4 } = some (.string k.ends) ∧ W.cell? { block := x.block, off := x.off + 5 } = some (.string k.data) ∧ W.cell? { block := x.block, off := x.off + 6 } = some (.slice ok k.kids.length ck)) w3.drew) := KLA.out w3 _ ⟨B3.out, cT, d6, r0, r1, r2, r3, r4, r5, r6⟩ (drewN_below w3 1)
  have XD : Hid (Bx w3.drew w2.heap.size nil none 0) := X3.out.later (drewN_below w3 1)
  have ZD : Hid (w.heap.size ≤ w3.drew.heap.size) := Z.out.2
  have BD : Hid (Below w.heap.size w w3.drew) := K3.out.1
  clear hl hk
  go_enter Tryz.func132, Tryz.ntmps132
  go_wp2_with fail
  go_region_held3 (fun W : World => Below w.heap.size w W ∧ W.cell? ⟨w.heap.size, 0, none⟩ = some (.slice oT ns.length capT) ∧ W.cell? ⟨w1.heap.size, 6, none⟩ = some (.slice (some x) 1 cap) ∧ W.cell? x = some (.int .i64 0) ∧ W.cell? { block := x.block, off := x.off + 1 } = some (.int .i64 k.offset) ∧ W.cell? { block := x.block, off := x.off + 2 } = some (.int .i64 k.length) ∧ W.cell? { block := x.block, off := x.off + 3 } = some (.string k.valid) ∧ W.cell? { block := x.block, off := x.off + 4 } = some (.string k.ends) ∧ W.cell? { block := x.block, off := x.off + 5 } = some (.string k.data) ∧ W.cell? { block := x.block, off := x.off + 6 } = some (.slice ok k.kids.length ck)) (first | with_reducible exact K3.out | with_reducible exact K4.out | with_reducible exact KST.out _ X4.out Z4.out K4.out)
    (first | (go_at_call 44; refine (HM.out _ BD.out).mono ?_; rintro e w4 ⟨rfl, b4⟩; have K4 : Hid _ := KLA.out _ _ K3.out b4; have Y4 := XD.out.later b4; have X4 : Hid _ := Y4; have Z4 : Hid _ := Nat.le_trans ZD.out b4.size; have u0 := Y4.c0; have u1 := Y4.c1; have u2 := Y4.c2; have u3 := Y4.c3; have u4 := Y4.c4; have u5 := Y4.c5; have u6 := Y4.c6; have v0 := Y4.fz 0; have v1 := Y4.fz 1; have v2 := Y4.fz 2; have v3 := Y4.fz 3; have v4 := Y4.fz 4; have v5 := Y4.fz 5; have v6 := Y4.fz 6; unfold nil at u0 u1 u2 u3 u4 u5 u6; simp only [List.length_nil] at u6; clear b4 Y4))
  all_goals
    obtain ⟨w5, e5, x5, m5⟩ := X4.out.put k ok ck
    have BE : Hid (Below w.heap.size w w5) := K4.out.1.trans (m5.below Z.out.1 Z4.out)
    rw [HL.out] at e5
    rw [e5]
    have y0 := x5.c0
    have y1 := x5.c1
    have y2 := x5.c2
    have y3 := x5.c3
    have y4 := x5.c4
    have y5 := x5.c5
    have y6 := x5.c6
    rw [HL.out] at y0
    clear x5 m5 e5 u0 u1 u2 u3 u4 u5 u6 v0 v1 v2 v3 v4 v5 v6 KST KLA K3 K4 X4
    go_wp2_with fail
    exact bodyPost_ret (v := .tuple #[.agg #[.int .i64 0, .int .i64 k.offset, .int .i64 k.length, .string k.valid, .string k.ends, .string k.data, .slice ok k.kids.length ck], .bool Q]) (by simp [results, Tryz.results132, go_sem, y0, y1, y2, y3, y4, y5, y6]) rfl ⟨by rw [HL.out], BE.out⟩
end Go.Proofs.YtcpfhfdgfcilaaaGreatDoor.Arr
namespace Go.Proofs.YtcpfhfdgfcilaaaGreatDoor.Arr
open Go.ChangeShapes Go.WideShapes Go.ChangeAt Go.RowKit
open Tree Val

/-- What base answers of an array. -/
theorem baseC (B bytes f : Nat) (ih : MayC B bytes f) (ns : List Nd) (oT : Option Addr) (capT : Nat) (at' : Int) (a : Arr) (o : Option Addr) (cap : Nat) (w : World) (ht : IsT w oT ns) (hh : HoldsF B bytes w (f + 1) (a.cells o cap) a) :
    ∃ (k : Arr) (ok : Option Addr) (ck : Nat) (okb : Bool), (∀ v, Below w.heap.size w v → Calls Tryz.prog 132 #[.agg #[.slice oT ns.length capT], .int .i64 at', a.val o cap] v fun r w' => r = .returned (.tuple #[k.val ok ck, .bool okb]) ∧ Below v.heap.size v w') ∧
      okb = (decide (a.kids.length = 1) && decide ((kidAt a 0).layout = 0) && mayZ ns at' f (kidAt a 0)) ∧ (okb = true → k = kidAt a 0) := by
  by_cases h1 : a.kids.length = 1
  · obtain ⟨x, o', cap', rfl, hk, hk2⟩ := hh.kid (i := 0) (by omega)
    rw [add_zero] at hk
    by_cases h2 : (kidAt a 0).layout = 0
    · refine ⟨kidAt a 0, o', cap', mayZ ns at' f (kidAt a 0), fun v hv => ?_, ?_, fun _ => rfl⟩
      · exact base_yes B bytes f ih ns oT capT at' a cap h1 (kidAt a 0) x o' cap' h2 v (ht.later hv) (hk.later hv) (hk2.later hv)
      · rw [decide_eq_true h1, decide_eq_true h2, Bool.true_and, Bool.true_and]
    · refine ⟨nil, none, 0, false, fun v hv => ?_, ?_, fun h => by cases h⟩
      · exact base_lay ns oT capT at' a (some x) cap h1 (kidAt a 0) x o' cap' rfl h2 v (hk.later hv)
      · rw [decide_eq_false h2, Bool.and_false, Bool.false_and]
  · refine ⟨nil, none, 0, false, fun v _ => ?_, ?_, fun h => by cases h⟩
    · exact base_few ns oT capT at' a o cap h1 v
    · rw [decide_eq_false h1, Bool.false_and, Bool.false_and]
def rowD (a : Arr) (m : Int) (i : Nat) : Bool := !there a i || belowB a.data i m
/-- All rows from one on. -/
def allD (a : Arr) (m : Int) (lo hi : Nat) : Prop := ∀ i, lo ≤ i → i < hi → rowD a m i = true
set_option maxRecDepth 20000 in
set_option maxHeartbeats 3200000 in
theorem isDict_w (B bytes f : Nat) (ih : Hid (MayC B bytes f)) (ns : List Nd) (oT : Option Addr) (capT : Nat) (at' : Int) (a : Arr) (o : Option Addr) (cap : Nat) (ho : Ok a) (hlack : Hid (a.valid.size = 0 ∨ rowsOf a ≤ 8 * a.valid.size)) (R : Bool) (w : World) (ht : Hid (IsT w oT ns)) (hh : Hid (HoldsF B bytes w (f + 1) (a.cells o cap) a))
    (hR : Hid (∀ okb m v, okb = (decide (a.kids.length = 1) && decide ((kidAt a 0).layout = 0) && mayZ ns at' f (kidAt a 0)) → (okb = true → m = (kidAt a 0).length ∧ v = (kidAt a 0).valid) → (R = true ↔ okb = true ∧ a.ends.size = 0 ∧ v.size = 0 ∧ 4 * rowsOf a ≤ a.data.size ∧ allD a m a.offset.toNat (rowsOf a)))) :
    Calls Tryz.prog 75 #[.agg #[.slice oT ns.length capT], .int .i64 at', a.val o cap] w fun r w' => r = .returned (.bool R) ∧ Below w.heap.size w w' := by
  obtain ⟨k, ok, ck, okb, hb, hokb, hkk⟩ := baseC B bytes f ih.out ns oT capT at' a o cap w ht.out hh.out
  have HR : Hid (R = true ↔ okb = true ∧ a.ends.size = 0 ∧ k.valid.size = 0 ∧ 4 * rowsOf a ≤ a.data.size ∧ allD a k.length a.offset.toNat (rowsOf a)) := hR.out okb k.length k.valid hokb (fun h => by rw [hkk h]; exact ⟨rfl, rfl⟩)
  obtain ⟨w1, e1, s1, c1, b1⟩ := boxed w (.slice oT ns.length capT) 24
  obtain ⟨w2, e2, x2, b2, z2⟩ := box7 w1 a o cap
  have B2 : Hid (Below w.heap.size w w2) := bel2 b1 b2
  have HB : Hid (Calls Tryz.prog 132 #[.agg #[.slice oT ns.length capT], .int .i64 at', a.val o cap] w2 fun r w' => r = .returned (.tuple #[k.val ok ck, .bool okb]) ∧ Below w2.heap.size w2 w') := hb w2 B2.out
  have X2 : Hid (Bx w2 w1.heap.size a o cap) := x2
  have cT := cell_later b2 c1
  have d0 := x2.c0
  have d1 := x2.c1
  have d2 := x2.c2
  have d3 := x2.c3
  have d4 := x2.c4
  have d5 := x2.c5
  have d6 := x2.c6
  have HO : Hid (Ok a) := ho
  unfold Arr.val at HB ⊢
  clear hb hokb hkk b1 b2 x2 z2 s1 c1 ih ht hh hR ho
  go_enter Tryz.func75, Tryz.ntmps75
  go_wp2_with fail
  refine HB.out.mono ?_
  rintro e w3 ⟨rfl, b3⟩
  have B3 : Hid (Below w2.heap.size w2 w3) := b3
  clear b3 d0 d1 d2 d3 d4 d5 d6 cT e1 e2
  go_wp2_with fail
  obtain ⟨w4, e4, x4, b4, z4⟩ := box7 w3 k ok ck
  rw [e4]
  have X4 : Hid (Bx w4 w1.heap.size a o cap) := X2.out.later (bel2 B3.out b4)
  have K4 : Hid (Bx w4 w3.heap.size k ok ck) := x4
  have B4 : Hid (Below w.heap.size w w4) := bel2 B2.out (bel2 B3.out b4)
  have HRo : Hid (∀ v, Calls Tryz.prog 124 #[a.val o cap] v fun r w' => r = .returned (.int .i64 ((rowsOf a : Nat) : Int)) ∧ Below v.heap.size v w') := fun v => rows a o cap HO.out.off HO.out.len HO.out.rows v
  have hrow : rowsOf a ≤ 64 := by have := HO.out.rows; have := HO.out.off; have := HO.out.len; unfold rowsOf; omega
  have hw : IntKind.i64.wrap (4 * ((rowsOf a : Nat) : Int)) = 4 * ((rowsOf a : Nat) : Int) := by rw [IntKind.wrap_i64]; omega
  have HOFF : Hid (a.offset = ((a.offset.toNat : Nat) : Int)) := by have := HO.out.off; unfold Hid; omega
  have hne := BW.some w4
  have C := X4.out.cells
  have d0 := C.d0
  have d1 := C.d1
  have d2 := C.d2
  have d3 := C.d3
  have d4 := C.d4
  have d5 := C.d5
  have d6 := C.d6
  have C2 := K4.out.cells
  have q2 := C2.d2
  have q3 := C2.d3
  unfold Arr.val at HRo
  clear C C2 e4 x4 b4 z4
  have HFA : Hid (¬ (okb = true ∧ a.ends.size = 0 ∧ k.valid.size = 0 ∧ 4 * rowsOf a ≤ a.data.size) → R = false) := fun h => by
    cases c : R
    · rfl
    · have := HR.out.1 c
      exact absurd ⟨this.1, this.2.1, this.2.2.1, this.2.2.2.1⟩ h
  cases okb with
  | false =>
    have HN : Hid (R = false) := HFA.out (fun h => by cases h.1)
    have HRe : Hid _ := HRo.out
    refine region_in (C := fun w' => ∃ s : BW w4, w' = s.w) (by kernel_rfl) (by kernel_rfl) ⟨⟨w4.drew, (Below.refl _ _).drew⟩, rfl⟩ ?_
    repeat (go_big_quiet_step (first
      | (go_at_call 124; rename_i s; refine (HRe.out s.w).mono ?_; rintro e wx ⟨rfl, hbx⟩; exact ⟨rfl, ⟨wx, bel2 s.ok hbx⟩, rfl⟩)))
    refine wpQuiet_nil ?_
    intro _ hw'
    obtain ⟨s, hw''⟩ := hw'
    subst hw''
    have HE : Hid (Below w4.heap.size w4 s.w) := s.ok
    clear hne d0 d1 d2 d3 d4 d5 d6 q2 q3
    go_wp2
    go_ret
    exact ⟨ret_bool HN.out.symm, bel2 B4.out HE.out⟩
  | true =>
    by_cases he : a.ends.size = 0
    · have HE0 : Hid (a.ends.size = 0) := he
      have hev := empty_of he
      by_cases hv : k.valid.size = 0
      · have HV0 : Hid (k.valid.size = 0) := hv
        have hvv := empty_of hv
        have HRe : Hid _ := HRo.out
        rw [hev] at d4 HRe
        rw [hvv] at q3
        by_cases hd : 4 * rowsOf a ≤ a.data.size
        · have HD0 : Hid (4 * rowsOf a ≤ a.data.size) := hd
          have hd2 : ¬ ((a.data.size : Nat) : Int) < 4 * ((rowsOf a : Nat) : Int) := by omega
          clear he hev hv hvv hd
          refine region_in (C := fun w' => ∃ s : BW w4, w' = s.w) (by kernel_rfl) (by kernel_rfl) ⟨⟨w4.drew, (Below.refl _ _).drew⟩, rfl⟩ ?_
          repeat (go_big_quiet_step (first
            | (go_at_call 124; rename_i s; refine (HRe.out s.w).mono ?_; rintro e wx ⟨rfl, hbx⟩; exact ⟨rfl, ⟨wx, bel2 s.ok hbx⟩, rfl⟩)))
          refine wpQuiet_nil ?_
          intro _ hw'
          obtain ⟨s, hw''⟩ := hw'
          subst hw''
          have HE : Hid (Below w4.heap.size w4 s.w) := s.ok
          clear hne d0 d1 d2 d3 d4 d5 d6 q2 q3
          have X5 := X4.out.later HE.out
          have d1 := X5.c1
          rw [HOFF.out] at d1
          generalize s.w = w5 at *
          clear X5
          go_wp2_with fail
          go_loopw [9] (fun t wr => ∃ r : Nat, a.offset.toNat ≤ r ∧ r ≤ rowsOf a ∧ t = .int .i64 (r : Int) ∧ allD a k.length a.offset.toNat r ∧ Below w4.heap.size w4 wr) (fun t _ => rowsOf a - (intOf t).toNat)
          case atStart => exact ⟨a.offset.toNat, Nat.le_refl _, by have := HO.out.off; have := HO.out.len; unfold rowsOf; omega, by congr 1; have := HO.out.off; omega, fun i h1 h2 => by omega, HE.out⟩
          case round =>
            obtain ⟨r, hr1, hr2, rfl, hall, hbl⟩ := hrel
            have HA : Hid (allD a k.length a.offset.toNat r) := hall
            have X6 := X4.out.later hbl
            have BL : Hid (Below w4.heap.size w4 wr) := hbl
            have Hr1 : Hid (a.offset.toNat ≤ r) := hr1
            have d0 := X6.c0
            have d1 := X6.c1
            have d2 := X6.c2
            have d3 := X6.c3
            have d4 := X6.c4
            have d5 := X6.c5
            have d6 := X6.c6
            clear hall X6 hbl hr1
            by_cases hlt : r < rowsOf a
            · have hlt2 : (r : Int) < ((rowsOf a : Nat) : Int) := by omega
              have HT : Hid (∀ v, Calls Tryz.prog 77 #[.string a.valid, .int .i64 (r : Int)] v fun e w' => e = .returned (.bool (there a r)) ∧ w' = v) := fun v => isThere a r HO.out.valid (by have := hlack.out; omega) v
              have HBl : Hid (∀ v, Calls Tryz.prog 133 #[.string a.data, .int .i64 (r : Int), .int .i64 k.length] v fun e w' => e = .returned (.bool (belowB a.data r k.length)) ∧ w' = v) := fun v => isBelow a.data r k.length HO.out.data (by omega) v
              have HRD : Hid (rowD a k.length r = (!there a r || belowB a.data r k.length)) := rfl
              have HRF : Hid (rowD a k.length r = false → R = false) := fun h => by
                cases c : R
                · rfl
                · have := (HR.out.1 c).2.2.2.2 r Hr1.out hlt
                  rw [h] at this
                  cases this
              unfold Arr.val at HT
              generalize there a r = T at *
              generalize belowB a.data r k.length = L at *
              go_wp2_with fail
              refine (HRo.out wr).mono ?_
              rintro e w6 ⟨rfl, b6⟩
              have B6 : Hid (Below w4.heap.size w4 w6) := bel2 BL.out b6
              have X6 := X4.out.later B6.out
              clear d0 d1 d2 d3 d4 d5 d6 b6
              have d0 := X6.c0
              have d1 := X6.c1
              have d2 := X6.c2
              have d3 := X6.c3
              have d4 := X6.c4
              have d5 := X6.c5
              have d6 := X6.c6
              clear X6
              go_wp2_with fail
              refine (HT.out w6).mono ?_
              rintro e w7 ⟨rfl, e7⟩
              obtain rfl := e7.symm
              have B7 := B6
              have X7 := X4.out.later B7.out
              have Y7 := K4.out.later B7.out
              clear d0 d1 d2 d3 d4 d5 d6 e7
              have d5 := X7.c5
              have q2 := Y7.c2
              clear X7 Y7
              cases T with
              | false =>
                have HG : Hid (rowD a k.length r = true) := HRD.out
                go_wp2
                go_roundw
                case rel =>
                  refine ⟨r + 1, by have := Hr1.out; omega, by omega, by go_num, fun i h1 h2 => ?_, B7.out⟩
                  by_cases e : i = r
                  · rw [e]; exact HG.out
                  · exact HA.out i h1 (by omega)
                case measure => simp [intOf]; omega
              | true =>
                go_wp2_with fail
                refine (HBl.out w6).mono ?_
                rintro e w8 ⟨rfl, h8⟩
                subst w8
                cases L with
                | false =>
                  have HN : Hid (R = false) := HRF.out HRD.out
                  go_wp2
                  go_ret
                  exact ⟨ret_bool HN.out.symm, bel2 B4.out B7.out⟩
                | true =>
                  have HG : Hid (rowD a k.length r = true) := HRD.out
                  go_wp2
                  go_roundw
                  case rel =>
                    refine ⟨r + 1, by have := Hr1.out; omega, by omega, by go_num, fun i h1 h2 => ?_, B7.out⟩
                    by_cases e : i = r
                    · rw [e]; exact HG.out
                    · exact HA.out i h1 (by omega)
                  case measure => simp [intOf]; omega
            · obtain rfl : r = rowsOf a := by omega
              have HN : Hid (R = true) := HR.out.2 ⟨trivial, HE0.out, HV0.out, HD0.out, HA.out⟩
              generalize rowsOf a = n at *
              go_wp2_with fail
              refine (HRo.out wr).mono ?_
              rintro e w6 ⟨rfl, b6⟩
              have B6 : Hid (Below w4.heap.size w4 w6) := bel2 BL.out b6
              clear b6
              go_wp2
              go_ret
              exact ⟨ret_bool HN.out.symm, bel2 B4.out B6.out⟩
        · have HN : Hid (R = false) := HFA.out (fun h => hd h.2.2.2)
          have hd2 : ((a.data.size : Nat) : Int) < 4 * ((rowsOf a : Nat) : Int) := by omega
          clear he hev hv hvv hd
          refine region_in (C := fun w' => ∃ s : BW w4, w' = s.w) (by kernel_rfl) (by kernel_rfl) ⟨⟨w4.drew, (Below.refl _ _).drew⟩, rfl⟩ ?_
          repeat (go_big_quiet_step (first
            | (go_at_call 124; rename_i s; refine (HRe.out s.w).mono ?_; rintro e wx ⟨rfl, hbx⟩; exact ⟨rfl, ⟨wx, bel2 s.ok hbx⟩, rfl⟩)))
          refine wpQuiet_nil ?_
          intro _ hw'
          obtain ⟨s, hw''⟩ := hw'
          subst hw''
          have HE : Hid (Below w4.heap.size w4 s.w) := s.ok
          clear hne d0 d1 d2 d3 d4 d5 d6 q2 q3
          go_wp2
          go_ret
          exact ⟨ret_bool HN.out.symm, bel2 B4.out HE.out⟩
      · have HN : Hid (R = false) := HFA.out (fun h => hv h.2.2.1)
        have hvv := ne_empty hv
        have HRe : Hid _ := HRo.out
        rw [hev] at d4 HRe
        clear he hev hv
        refine region_in (C := fun w' => ∃ s : BW w4, w' = s.w) (by kernel_rfl) (by kernel_rfl) ⟨⟨w4.drew, (Below.refl _ _).drew⟩, rfl⟩ ?_
        repeat (go_big_quiet_step (first
          | (go_at_call 124; rename_i s; refine (HRe.out s.w).mono ?_; rintro e wx ⟨rfl, hbx⟩; exact ⟨rfl, ⟨wx, bel2 s.ok hbx⟩, rfl⟩)))
        refine wpQuiet_nil ?_
        intro _ hw'
        obtain ⟨s, hw''⟩ := hw'
        subst hw''
        have HE : Hid (Below w4.heap.size w4 s.w) := s.ok
        clear hne d0 d1 d2 d3 d4 d5 d6 q2 q3
        go_wp2
        go_ret
        exact ⟨ret_bool HN.out.symm, bel2 B4.out HE.out⟩
    · have HN : Hid (R = false) := HFA.out (fun h => he h.2.1)
      have hev := ne_empty he
      have HRe : Hid _ := HRo.out
      clear he
      refine region_in (C := fun w' => ∃ s : BW w4, w' = s.w) (by kernel_rfl) (by kernel_rfl) ⟨⟨w4.drew, (Below.refl _ _).drew⟩, rfl⟩ ?_
      repeat (go_big_quiet_step (first
        | (go_at_call 124; rename_i s; refine (HRe.out s.w).mono ?_; rintro e wx ⟨rfl, hbx⟩; exact ⟨rfl, ⟨wx, bel2 s.ok hbx⟩, rfl⟩)))
      refine wpQuiet_nil ?_
      intro _ hw'
      obtain ⟨s, hw''⟩ := hw'
      subst hw''
      have HE : Hid (Below w4.heap.size w4 s.w) := s.ok
      clear hne d0 d1 d2 d3 d4 d5 d6 q2 q3
      go_wp2
      go_ret
      exact ⟨ret_bool HN.out.symm, bel2 B4.out HE.out⟩
theorem dict_iff {a : Arr} (ho : Ok a) : dictB a = true ↔ 4 * rowsOf a ≤ a.data.size ∧ (kidAt a 0).valid.size = 0 ∧ allD a (kidAt a 0).length a.offset.toNat (rowsOf a) := by
  have h0 := ho.off
  unfold dictB allD rowD belowB
  simp only [Bool.and_eq_true, decide_eq_true_eq, List.all_eq_true, Bool.or_eq_true, List.mem_range]
  constructor
  · rintro ⟨⟨h1, h2⟩, h3⟩
    refine ⟨h1, h2, fun i hi hj => ?_⟩
    rcases h3 i hj with (c | c) | c
    · omega
    · exact .inl c
    · exact .inr c
  · rintro ⟨h1, h2, h3⟩
    refine ⟨⟨h1, h2⟩, fun i hi => ?_⟩
    by_cases c : (i : Int) < a.offset
    · exact .inl (.inl c)
    · rcases h3 i (by omega) hi with d | d
      · exact .inl (.inr d)
      · exact .inr d
/-- What May asks of an array by a dictionary. -/
def dictA' (ns : List Nd) (f n : Nat) (a : Arr) : Bool := decide (a.kids.length = 1) && decide (a.ends.size = 0) && decide ((kidAt a 0).layout = 0) && mayF ns f n (kidAt a 0) && dictB a
theorem isDict (B bytes f : Nat) (ih : MayC B bytes f) (ns : List Nd) (oT : Option Addr) (capT n : Nat) (hn : n < ns.length) (hm : may ns = true) (a : Arr) (o : Option Addr) (cap : Nat) (ho : Ok a) (hlack : a.valid.size = 0 ∨ rowsOf a ≤ 8 * a.valid.size) (w : World) (ht : IsT w oT ns) (hh : HoldsF B bytes w (f + 1) (a.cells o cap) a) :
    Calls Tryz.prog 75 #[.agg #[.slice oT ns.length capT], .int .i64 (n : Int), a.val o cap] w fun r w' => r = .returned (.bool (dictA' ns f n a)) ∧ Below w.heap.size w w' := by
  refine isDict_w B bytes f ih ns oT capT n a o cap ho hlack _ w ht hh (fun okb m v h1 h2 => ?_)
  rw [mayZ_kid hm hn] at h1
  unfold dictA'
  constructor
  · intro h
    simp only [Bool.and_eq_true, decide_eq_true_eq] at h
    obtain ⟨⟨⟨⟨c1, c2⟩, c3⟩, c4⟩, c5⟩ := h
    have h3 : okb = true := by rw [h1, decide_eq_true c1, decide_eq_true c3, c4]; rfl
    obtain ⟨rfl, rfl⟩ := h2 h3
    obtain ⟨e1, e2, e3⟩ := (dict_iff ho).1 c5
    exact ⟨h3, c2, e2, e1, e3⟩
  · rintro ⟨c1, c2, c3, c4, c5⟩
    obtain ⟨rfl, rfl⟩ := h2 c1
    rw [c1] at h1
    have h1 := h1.symm
    simp only [Bool.and_eq_true, decide_eq_true_eq] at h1
    simp only [Bool.and_eq_true, decide_eq_true_eq]
    exact ⟨⟨⟨⟨h1.1.1, c2⟩, h1.1.2⟩, h1.2⟩, (dict_iff ho).2 ⟨c4, c3, c5⟩⟩
end Go.Proofs.YtcpfhfdgfcilaaaGreatDoor.Arr
