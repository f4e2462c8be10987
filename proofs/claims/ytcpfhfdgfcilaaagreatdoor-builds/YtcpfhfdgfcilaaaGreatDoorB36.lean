/-
  Several texts in one: An array written over: SpoilArray: which blocks it may turn, and how. · Texts lent, kept, written over: contracts.
-/
import Derived.Test.YtcpfhfdgfcilaaaGreatDoorB20
import Derived.Test.YtcpfhfdgfcilaaaGreatDoorB06
import Derived.Test.YtcpfhfdgfcilaaaGreatDoorB12
import Derived.Test.YtcpfhfdgfcilaaaGreatDoorB01
import Derived.Test.YtcpfhfdgfcilaaaGreatDoorB13
import Derived.Test.YtcpfhfdgfcilaaaGreatDoorB16
import Derived.Test.YtcpfhfdgfcilaaaGreatDoorB17
import Derived.Laws.OwnMore
import Derived.Laws.AppendOwnNone
set_option linter.unusedVariables false
set_option linter.unusedSimpArgs false
namespace Go.Proofs.YtcpfhfdgfcilaaaGreatDoor.Arr
open Go.ChangeShapes Go.WideShapes Go.ChangeAt Go.RowKit
open Tree Val

/-- Of the arrays in these blocks lengths alone may have turned; no other block. -/
structure Spd (ok : Nat → Prop) (w w' : World) : Prop where
  kept : Kept ok w w'
  turn : ∀ b cur, ok b → w.heap[b]? = some (.cells cur 27 (0, 0)) → ∃ cur' : Array Value, w'.heap[b]? = some (.cells cur' 27 (0, 0)) ∧ cur'.size = cur.size ∧ ∀ j, cur'[j]? = cur[j]? ∨ j % 7 = 2 ∧ ∃ x, (Lit.int .i64 x).wf = true ∧ cur'[j]? = some (.int .i64 x)
theorem Spd.refl (ok : Nat → Prop) (w : World) : Spd ok w w := ⟨Kept.refl ok w, fun b cur _ h => ⟨cur, h, rfl, fun j => .inl rfl⟩⟩
theorem Spd.trans {ok : Nat → Prop} {w w1 w2 : World} (h : Spd ok w w1) (k : Spd ok w1 w2) : Spd ok w w2 := by
  refine ⟨⟨k.kept.os.trans h.kept.os, k.kept.tape.trans h.kept.tape, k.kept.output.trans h.kept.output, Nat.le_trans h.kept.size k.kept.size, fun q hq hs => (k.kept.block q (Nat.lt_of_lt_of_le hq h.kept.size) hs).trans (h.kept.block q hq hs)⟩, fun b cur hb hc => ?_⟩
  obtain ⟨c1, h1, h2, h3⟩ := h.turn b cur hb hc
  obtain ⟨c2, k1, k2, k3⟩ := k.turn b c1 hb h1
  refine ⟨c2, k1, k2.trans h2, fun j => ?_⟩
  rcases k3 j with e | e
  · rcases h3 j with e' | ⟨e1, x, e2, e3⟩
    · exact .inl (e.trans e')
    · exact .inr ⟨e1, x, e2, e.trans e3⟩
  · exact .inr e
theorem Spd.wide {ok ok' : Nat → Prop} {w w' : World} (h : Spd ok w w') (hk : ∀ b, ok b → ok' b) : Spd ok' w w' := by
  refine ⟨⟨h.kept.os, h.kept.tape, h.kept.output, h.kept.size, fun q hq hs => h.kept.block q hq (fun c => hs (hk q c))⟩, fun b cur hb hc => ?_⟩
  by_cases c : ok b
  · exact h.turn b cur c hc
  · exact ⟨cur, (h.kept.block b (Array.getElem?_eq_some_iff.1 hc).1 c).trans hc, rfl, fun j => .inl rfl⟩
theorem Spd.below {ok : Nat → Prop} {w w1 w2 : World} (h : Spd ok w w1) (hb : Below w1.heap.size w1 w2) : Spd ok w w2 := by
  refine ⟨h.kept.below hb, fun b cur hk hc => ?_⟩
  obtain ⟨c1, h1, h2, h3⟩ := h.turn b cur hk hc
  exact ⟨c1, (hb.block b (Array.getElem?_eq_some_iff.1 h1).1).trans h1, h2, h3⟩
theorem Spd.set {ok : Nat → Prop} {w : World} {g j : Nat} {x : Int} (hg : ok g) (hj : j % 7 = 2) (hx : (Lit.int .i64 x).wf = true) : Spd ok w (w.setCell ⟨g, j, none⟩ (.int .i64 x)) := by
  refine ⟨(Kept.refl ok w).set hg _, fun b cur hk hc => ?_⟩
  by_cases e : b = g
  · subst e
    refine ⟨_, blk_set hc j _, by simp, fun i => ?_⟩
    by_cases e : i = j
    · subst e
      by_cases hi : i < cur.size
      · exact .inr ⟨hj, x, hx, by simp [hi]⟩
      · exact .inl (by simp [hi])
    · exact .inl (by rw [Array.getElem?_setIfInBounds_ne (Ne.symm e)])
  · exact ⟨cur, (Below.heap_setCell w ⟨g, j, none⟩ _ b e).trans hc, rfl, fun i => .inl rfl⟩
theorem arr_self (a : Arr) : (⟨a.layout, a.offset, a.length, a.valid, a.ends, a.data, a.kids⟩ : Arr) = a := by cases a; rfl
theorem len_holds {B : Nat} {w : World} {f : Nat} {ok : Nat → Prop} {a : Arr} {o : Option Addr} {c : Nat} (h : HoldsO B w f ok (a.cells o c) a) {x : Int} (hx : (Lit.int .i64 x).wf = true) : HoldsO B w f ok (({ a with length := x } : Arr).cells o c) { a with length := x } := by
  cases f with
  | zero => cases h
  | succ f =>
    obtain ⟨o2, c2, e, hk, h3, h4, h5⟩ := h
    have eo : o = o2 ∧ c = c2 := by
      unfold Arr.cells at e
      simp only [List.cons.injEq, Value.slice.injEq, and_true, true_and] at e
      exact e
    obtain ⟨rfl, rfl⟩ := eo
    exact ⟨o, c, rfl, ⟨hk.layout, hk.offset, hx, hk.valid, hk.ends, hk.data⟩, h3, h4, h5⟩
/-- What is left of an array of one's own: its shape. -/
theorem Spd.holds {B : Nat} {ok : Nat → Prop} {w w' : World} (h : Spd ok w w') : ∀ {f : Nat} {okk : Nat → Prop} {cs : List Value} {a : Arr}, (∀ b, okk b → ok b) → HoldsO B w f okk cs a → ∃ ks : List Arr, ks.length = a.kids.length ∧ HoldsO B w' f okk cs { a with kids := ks } := by
  intro f
  induction f with
  | zero => intro okk cs a _ hH; cases hH
  | succ f ih =>
    rintro okk cs a hok ⟨o, cap, h1, h2, h3, h4, h5⟩
    rcases h5 with ⟨e1, e2, e3⟩ | ⟨g, cur, e1, hg, hc, hs, hx⟩
    · refine ⟨a.kids, rfl, ?_⟩
      rw [arr_self a]
      exact ⟨o, cap, h1, h2, h3, h4, .inl ⟨e1, e2, e3⟩⟩
    · obtain ⟨cur', k1, k2, k3⟩ := h.turn g cur (hok g hg) hc
      have hK : ∀ i, ∃ k : Arr, i < a.kids.length → ∃ cs' : List Value, cs'.length = 7 ∧ (∀ j, j < 7 → cur'[i * 7 + j]? = cs'[j]?) ∧ HoldsO B w' f (fun b => okk b ∧ b ≠ g) cs' k := by
        intro i
        by_cases hi : i < a.kids.length
        · obtain ⟨cs', hl, hcc, hh⟩ := hx i hi
          obtain ⟨ks, _, hh'⟩ := ih (fun b hb => hok b hb.1) hh
          cases f with
          | zero => cases hh
          | succ f =>
            obtain ⟨o3, c3, e3, _⟩ := id hh'
            rw [e3] at hh' hl hcc
            rcases k3 (i * 7 + 2) with q | ⟨_, x, hxw, q⟩
            · refine ⟨_, fun _ => ⟨_, hl, fun j hj => ?_, hh'⟩⟩
              rw [← hcc j hj]
              rcases k3 (i * 7 + j) with q' | ⟨q1, _⟩
              · exact q'
              · obtain rfl : j = 2 := by omega
                exact q
            · refine ⟨_, fun _ => ⟨_, rfl, fun j hj => ?_, len_holds hh' hxw⟩⟩
              by_cases ej : j = 2
              · subst ej
                exact q
              · have : cur'[i * 7 + j]? = cur[i * 7 + j]? := by
                  rcases k3 (i * 7 + j) with q' | ⟨q1, _⟩
                  · exact q'
                  · omega
                rw [this, hcc j hj]
                match j, hj, ej with
                | 0, _, _ => rfl
                | 1, _, _ => rfl
                | 3, _, _ => rfl
                | 4, _, _ => rfl
                | 5, _, _ => rfl
                | 6, _, _ => rfl
        · exact ⟨nil, fun c => absurd c hi⟩
      obtain ⟨F, hF⟩ := Classical.axiomOfChoice hK
      have hlen : ((List.range a.kids.length).map F).length = a.kids.length := by simp
      refine ⟨(List.range a.kids.length).map F, hlen, o, cap, ?_, ⟨h2.layout, h2.offset, h2.length, h2.valid, h2.ends, h2.data⟩, ?_, h4, .inr ⟨g, cur', e1, hg, k1, k2.trans hs, fun i hi => ?_⟩⟩
      · rw [h1]
        unfold Arr.cells
        rw [hlen]
      · show ((List.range a.kids.length).map F).length ≤ cap
        rw [hlen]
        exact h3
      · have hi' : i < a.kids.length := by
          have : i < ((List.range a.kids.length).map F).length := hi
          rwa [hlen] at this
        have e : ((List.range a.kids.length).map F).getD i nil = F i := by
          rw [List.getD_eq_getElem?_getD, List.getElem?_map, List.getElem?_range hi']
          rfl
        show ∃ cs', cs'.length = 7 ∧ (∀ j, j < 7 → cur'[i * 7 + j]? = cs'[j]?) ∧ HoldsO B w' f (fun b => okk b ∧ b ≠ g) cs' (((List.range a.kids.length).map F).getD i nil)
        rw [e]
        exact hF i hi'
/-- A kid of an array of one's own, and the block that it stands in. -/
theorem HoldsO.kidO {B : Nat} {w : World} {f : Nat} {ok : Nat → Prop} {a : Arr} {o : Option Addr} {cap : Nat} (h : HoldsO B w (f + 1) ok (a.cells o cap) a) {i : Nat} (hi : i < a.kids.length) :
    ∃ g cur o' cap', o = some ⟨g, 0, none⟩ ∧ ok g ∧ w.heap[g]? = some (.cells cur 27 (0, 0)) ∧ cur.size = cap * 7 ∧ i * 7 + 7 ≤ cur.size ∧ (∀ j v, j < 7 → ((kidAt a i).cells o' cap')[j]? = some v → cur[i * 7 + j]? = some v) ∧ HoldsO B w f (fun b => ok b ∧ b ≠ g) ((kidAt a i).cells o' cap') (kidAt a i) := by
  obtain ⟨o2, c2, e, hk, h3, h4, h5⟩ := h
  have eo : o = o2 ∧ cap = c2 := by
    unfold Arr.cells at e
    simp only [List.cons.injEq, Value.slice.injEq, and_true, true_and] at e
    exact e
  obtain ⟨rfl, rfl⟩ := eo
  rcases h5 with ⟨_, e2, _⟩ | ⟨g, cur, e1, hg, hc, hs, hx⟩
  · rw [e2] at hi; exact absurd hi (Nat.not_lt_zero _)
  · obtain ⟨cs', hl, hcc, hh⟩ := hx i hi
    cases f with
    | zero => cases hh
    | succ f =>
      obtain ⟨o3, c3, e3, _⟩ := id hh
      have hka : a.kids.getD i nil = kidAt a i := rfl
      rw [hka] at hh e3
      rw [e3] at hh hcc
      exact ⟨g, cur, o3, c3, e1, hg, hc, hs, by omega, fun j v hj hv => (hcc j hj).trans hv, hh⟩
theorem row_cell {w : World} {g : Nat} {cur : Array Value} {t : TypeId} (h : w.heap[g]? = some (.cells cur t (0, 0))) {j : Nat} {v : Value} (hv : cur[j]? = some v) : w.cell? ⟨g, j, none⟩ = some v := by simp [World.cell?, h, hv]
theorem row_fz {w : World} {g : Nat} {cur : Array Value} {t : TypeId} (h : w.heap[g]? = some (.cells cur t (0, 0))) (j : Nat) : w.frozen? ⟨g, j, none⟩ = false := by simp [World.frozen?, h]
/-- What SpoilArray answers. -/
def SpoilC (B f : Nat) : Prop := ∀ (a : Arr) (o : Option Addr) (cap : Nat) (ok : Nat → Prop) (w : World), HoldsO B w f ok (a.cells o cap) a →
  Calls Tryz.prog 29 #[a.val o cap] w fun r w' => r = .returned (.tuple #[]) ∧ Spd ok w w'
set_option maxRecDepth 20000 in
set_option maxHeartbeats 3200000 in
theorem spoil_step (B f : Nat) (ih : Hid (SpoilC B f)) : SpoilC B (f + 1) := by
  intro a o cap ok w hH
  obtain ⟨w1, e1, x1, b1, z1⟩ := box7 w a o cap
  have B1 : Hid (Below w.heap.size w w1) := b1
  have X1 : Hid (Bx w1 w.heap.size a o cap) := x1
  have HO1 : Hid (HoldsO B w1 (f + 1) (fun b => ok b ∧ b < w.heap.size) (a.cells o cap) a) := hH.lt.stays (fun b hb => b1.block b hb.2) (fun b hb => hb)
  have hlen : a.kids.length ≤ 9223372036854775807 := by
    obtain ⟨o2, cap2, e, _, h3, h4, _⟩ := hH
    unfold maxLen at h4
    omega
  have d6 := X1.out.c6
  unfold Arr.val
  clear x1 b1 hH z1
  go_enter Tryz.func29, Tryz.ntmps29
  go_wp2_with fail
  go_loopw [2] (fun t wr => ∃ k : Nat, k ≤ a.kids.length ∧ t = .int .i64 (k : Int) ∧ Spd (fun b => ok b ∧ b < w.heap.size) w1 wr) (fun t _ => a.kids.length - (intOf t).toNat)
  case atStart => exact ⟨0, Nat.zero_le _, rfl, Spd.refl _ _⟩
  case round =>
    obtain ⟨k, hk, rfl, hsp⟩ := hrel
    have SP : Hid (Spd (fun b => ok b ∧ b < w.heap.size) w1 wr) := hsp
    have XR : Hid (Bx wr w.heap.size a o cap) := ⟨hsp.kept.heap X1.out.blk (fun c => by have := c.2; omega)⟩
    clear d6 hsp
    have d6 := XR.out.c6
    by_cases hlt : k < a.kids.length
    · obtain ⟨ks, hks, hhr⟩ := SP.out.holds (fun b hb => hb) HO1.out
      have hcs : a.cells o cap = ({ a with kids := ks } : Arr).cells o cap := by unfold Arr.cells; rw [hks]
      rw [hcs] at hhr
      obtain ⟨g, cur, ok', ck', rfl, hg, hcur, hsz, hroom, hcc, hkk⟩ := hhr.kidO (i := k) (by show k < ks.length; omega)
      generalize kidAt ({ a with kids := ks } : Arr) k = kk at *
      have k0 : wr.cell? ⟨g, k * 7, none⟩ = some (.int .i64 kk.layout) := row_cell hcur (hcc 0 _ (by omega) rfl)
      have k1 : wr.cell? ⟨g, k * 7 + 1, none⟩ = some (.int .i64 kk.offset) := row_cell hcur (hcc 1 _ (by omega) rfl)
      have k2 : wr.cell? ⟨g, k * 7 + 2, none⟩ = some (.int .i64 kk.length) := row_cell hcur (hcc 2 _ (by omega) rfl)
      have k3 : wr.cell? ⟨g, k * 7 + 3, none⟩ = some (.string kk.valid) := row_cell hcur (hcc 3 _ (by omega) rfl)
      have k4 : wr.cell? ⟨g, k * 7 + 4, none⟩ = some (.string kk.ends) := row_cell hcur (hcc 4 _ (by omega) rfl)
      have k5 : wr.cell? ⟨g, k * 7 + 5, none⟩ = some (.string kk.data) := row_cell hcur (hcc 5 _ (by omega) rfl)
      have k6 : wr.cell? ⟨g, k * 7 + 6, none⟩ = some (.slice ok' kk.kids.length ck') := row_cell hcur (hcc 6 _ (by omega) rfl)
      have HMM : Hid (Calls Tryz.prog 29 #[kk.val ok' ck'] wr fun r w' => r = .returned (.tuple #[]) ∧ Spd (fun b => (ok b ∧ b < w.heap.size) ∧ b ≠ g) wr w') := ih.out kk ok' ck' _ wr hkk
      have HG : Hid (ok g ∧ g < w.heap.size) := hg
      have HCU : Hid (wr.heap[g]? = some (.cells cur 27 (0, 0)) ∧ cur[k * 7 + 2]? = some (.int .i64 kk.length)) := ⟨hcur, hcc 2 _ (by omega) rfl⟩
      have i1 : (k : Int) < ((a.kids.length : Nat) : Int) := by omega
      have i0 : (0 : Int) ≤ (k : Int) := Int.natCast_nonneg _
      unfold Arr.val at HMM
      clear hhr hcs hg hcur hsz hroom hcc hkk hks
      go_wp2_with fail
      refine HMM.out.mono ?_
      rintro e v ⟨rfl, hs⟩
      have SV : Hid (Spd (fun b => (ok b ∧ b < w.heap.size) ∧ b ≠ g) wr v) := hs
      have XV : Hid (Bx v w.heap.size a (some ⟨g, 0, none⟩) cap) := ⟨hs.kept.heap XR.out.blk (fun c => by have := c.1.2; omega)⟩
      have HCV : Hid (v.heap[g]? = some (.cells cur 27 (0, 0))) := hs.kept.heap HCU.out.1 (fun c => c.2 rfl)
      clear d6 k0 k1 k2 k3 k4 k5 k6 hs
      have d6 := XV.out.c6
      have k2 : v.cell? ⟨g, k * 7 + 2, none⟩ = some (.int .i64 kk.length) := row_cell HCV.out HCU.out.2
      have f2 : v.frozen? ⟨g, k * 7 + 2, none⟩ = false := row_fz HCV.out _
      have HN : Hid (∀ u x, Below v.heap.size v u → (Lit.int .i64 x).wf = true → Spd (fun b => ok b ∧ b < w.heap.size) w1 (u.setCell ⟨g, k * 7 + 2, none⟩ (.int .i64 x))) := fun u x hu hx => (SP.out.trans ((SV.out.wide (fun b hb => hb.1)).below hu)).trans (Spd.set HG.out (by omega) hx)
      go_wp2
      go_region
      go_wp2
      go_roundw
      case rel =>
        refine ⟨k + 1, by omega, by go_num, Spd.below (HN.out _ _ (Below.refl _ _) ?_) ((Below.refl _ _).drew)⟩
        go_wf2
      case measure => simp [intOf]; omega
    · obtain rfl : k = a.kids.length := by omega
      have HF : Hid (Spd ok w wr) := by
        have h := SP.out
        have h0 : Spd (fun b => ok b ∧ b < w.heap.size) w w1 := (Spd.refl _ w).below B1.out
        exact (h0.trans h).wide (fun b hb => hb.1)
      go_wp2
      go_end0
      exact ⟨rfl, HF.out⟩
theorem spoilA (B : Nat) : ∀ f, SpoilC B f := by
  intro f
  induction f with
  | zero => intro a o cap ok w hH; cases hH
  | succ f ih => exact spoil_step B f ih
end Go.Proofs.YtcpfhfdgfcilaaaGreatDoor.Arr
namespace Go.Proofs.YtcpfhfdgfcilaaaGreatDoor.Val
open Go.ChangeShapes Go.WideShapes Go.ChangeAt Go.RowKit
open Tree (own_slice own_mono)
open Texts

/-- A list of texts that came in: nil, or its texts lie somewhere. -/
def CoT (w : World) (a : Option Addr) (cap : Nat) (ss : List ByteArray) : Prop := a = none ∧ ss = [] ∧ cap = 0 ∨ ∃ x, a = some x ∧ LiesT w x ss
theorem CoT.later {w w' : World} {a : Option Addr} {cap : Nat} {ss : List ByteArray} (h : CoT w a cap ss) (hb : Below w.heap.size w w') : CoT w' a cap ss :=
  h.imp id fun ⟨x, e, hl⟩ => ⟨x, e, fun i hi => Tree.cell_later hb (hl i hi)⟩
theorem coT_of {w : World} {a : Option Addr} {len cap : Nat} {z : List ByteArray} (h : IsTexts w a len cap z) : CoT w a cap (z.take len) := by
  rcases h with ⟨rfl, rfl, rfl, rfl⟩ | ⟨x, rfl, h1, h2, h3, h4, h5⟩
  · exact .inl ⟨rfl, rfl, rfl⟩
  · have hl : (z.take len).length = len := by rw [List.length_take, h3, Nat.min_eq_left h1]
    refine .inr ⟨x, rfl, fun i hi => ?_⟩
    rw [hl] at hi
    rw [getD_takeT z len i hi]
    exact h4 i (by omega)
theorem cellsT_one (ss : List ByteArray) : ∀ u ∈ cellsT ss, u.oneCell' = true := by
  intro u hu
  obtain ⟨s, _, rfl⟩ := List.mem_map.1 hu
  rfl
theorem liesT_cells {w : World} {x : Addr} {ss : List ByteArray} (h : LiesT w x ss) : ∀ j u, (cellsT ss)[j]? = some u → w.cell? (x.add j) = some u := by
  intro j u hj
  have hjl : j < ss.length := by
    have := (List.getElem?_eq_some_iff.1 hj).1
    simpa [cellsT] using this
  rw [cellsT_at ss j hjl] at hj
  rw [h j hjl]
  exact hj
theorem length_cellsT (ss : List ByteArray) : (cellsT ss).length = ss.length * 1 := by simp [cellsT]
theorem own_none (w : World) : (w.alloc (.cells #[] 9)).ownsRow w.heap.size 9 1 (.slice (some ⟨w.heap.size, 0, none⟩) 0 0) 0 (cellsT []) := by
  have := World.ownsRow_lit (base := w.heap.size) (e := 9) (size := 1) w #[] 0 (Nat.le_refl _) (Nat.zero_le _) rfl
  simpa [cellsT] using this
set_option maxRecDepth 20000 in
set_option maxHeartbeats 800000 in
theorem copyTexts (a : Option Addr) (cap : Nat) (ss : List ByteArray) (hn : ss.length ≤ 8796093021952) (w : World) (h : Hid (CoT w a cap ss)) :
    Calls Tryz.prog 58 #[.slice a ss.length cap] w fun r w' => ∃ o c, r = .returned (.slice o ss.length c) ∧ w'.ownsRow w.heap.size 9 1 (.slice o ss.length c) ss.length (cellsT ss) ∧ Below w.heap.size w w' := by
  obtain ⟨i9, hi, hz0, hz1, hz2⟩ := info_parts info9
  rcases h.out with ⟨rfl, rfl, rfl⟩ | ⟨x, rfl, hx⟩
  · clear h
    go_enter Tryz.func58, Tryz.ntmps58
    go_wp2_with (at_builtin; refine wpList_append_own_none rfl (.tmp 3) (.tmp 4) 29 rfl w.heap.size 9 i9 1 Tryz.underlying29 hi _ 0 _ rfl (own_none w) rfl ?_)
    go_wp2
    go_ret
    exact ⟨_, _, rfl, own_none w, (Below.refl _ _).alloc (Nat.le_refl _) _⟩
  · have HX : Hid (LiesT (w.alloc (.cells #[] 9)) x ss) := fun i hi => Tree.cell_later ((Below.refl _ _).alloc (Nat.le_refl _) _) (hx i hi)
    clear h hx
    go_enter Tryz.func58, Tryz.ntmps58
    go_wp2_with (at_builtin; refine wpList_append_own _ rfl (.tmp 3) (.tmp 4) 29 rfl w.heap.size 9 i9 (.string ⟨#[]⟩) 1 16 Tryz.underlying29 hi hz0 hz1 hz2 rfl (by decide) _ 0 _ rfl (own_none w) x ss.length cap (cellsT ss) rfl (length_cellsT ss) (liesT_cells HX.out) (cellsT_one ss) ?c3 ?c4 ?c5 ?_)
    case c3 => unfold maxLen; omega
    case c4 => omega
    case c5 => simp
    intro v' w3 hown' hgrow _
    have hown3 : w3.ownsRow w.heap.size 9 1 v' ss.length (cellsT ss) := hown'
    have hb3 : Below w.heap.size w w3 := ((Below.refl _ _).alloc (Nat.le_refl _) _).grown hgrow (by simp) (fun j hj => ((own_none w).lt j hj).1)
    obtain ⟨o3, c3, rfl⟩ := own_slice hown3
    have H3 : Hid (w3.ownsRow w.heap.size 9 1 (.slice o3 ss.length c3) ss.length (cellsT ss) ∧ Below w.heap.size w w3) := ⟨hown3, hb3⟩
    clear hown' hown3 hb3 hgrow HX
    go_wp2
    go_ret
    exact ⟨o3, c3, rfl, H3.out⟩
def roomT : ByteArray := ⟨#[126, 114, 111, 111, 109]⟩
def behindT : ByteArray := ⟨#[126, 98, 101, 104, 105, 110, 100]⟩
theorem own_at {w : World} {b n : Nat} {v : Value} {xs : List Value} (h : w.ownsRow b 9 1 v n xs) (h0 : 0 < n) : ∃ g c, v = .slice (some ⟨g, 0, none⟩) n c ∧ n ≤ c := by
  rcases h.2 with ⟨_, hn⟩ | ⟨g, cap, cur, rfl, _, _, hle, _⟩
  · omega
  · exact ⟨g, cap, rfl, hle⟩
set_option maxRecDepth 20000 in
set_option maxHeartbeats 800000 in
theorem lendTexts (a : Option Addr) (cap : Nat) (ss : List ByteArray) (hn : ss.length ≤ 8796093021952) (w : World) (h : Hid (CoT w a cap ss)) :
    Calls Tryz.prog 25 #[.slice a ss.length cap] w fun r w' => ∃ g c, r = .returned (.slice (some ⟨g, 0, none⟩) ss.length c) ∧ ss.length + 2 ≤ c ∧ w'.ownsRow w.heap.size 9 1 (.slice (some ⟨g, 0, none⟩) (ss.length + 2) c) (ss.length + 2) (cellsT ss ++ [.string roomT, .string behindT]) ∧ Below w.heap.size w w' := by
  obtain ⟨i9, hi, hz0, hz1, hz2⟩ := info_parts info9
  go_enter Tryz.func25, Tryz.ntmps25
  go_wp2_with fail
  refine (copyTexts a cap ss hn w h).mono ?_
  rintro e w1 ⟨o, c, rfl, hown, b1⟩
  clear h
  go_wp2_with (at_builtin; refine wpList_append_own _ rfl (.tmp 5) (.tmp 6) 29 rfl w.heap.size 9 i9 (.string ⟨#[]⟩) 1 16 Tryz.underlying29 hi hz0 hz1 hz2 rfl (by decide) _ ss.length _ rfl (hown.alloc _) ⟨w1.heap.size, 0, none⟩ 2 2 [.string roomT, .string behindT] rfl rfl ?c1 ?c2 ?c3 ?c4 ?c5 ?_)
  case c1 =>
    intro j u hj
    match j, hj with
    | 0, hj => simp at hj; subst hj; simp [Addr.add]; rfl
    | 1, hj => simp at hj; subst hj; simp [Addr.add]; rfl
  case c2 => intro u hu; simp at hu; rcases hu with rfl | rfl <;> rfl
  case c3 => unfold maxLen; omega
  case c4 => omega
  case c5 => have := b1.size; simp; omega
  intro v' w3 hown' hgrow _
  have hb3 : Below w.heap.size w w3 := (b1.alloc b1.size _).grown hgrow (by have := b1.size; simp; omega) (fun j hj => (hown.lt j hj).1)
  obtain ⟨g, c3, rfl, hc3⟩ := own_at hown' (by omega)
  have H3 : Hid (w3.ownsRow w.heap.size 9 1 (.slice (some ⟨g, 0, none⟩) (ss.length + 2) c3) (ss.length + 2) (cellsT ss ++ [.string roomT, .string behindT]) ∧ Below w.heap.size w w3) := ⟨hown', hb3⟩
  clear hown' hgrow hb3 hown b1
  have i0 : (0 : Int) ≤ ((ss.length : Nat) : Int) := by omega
  have i1 : ((ss.length : Nat) : Int) ≤ ((c3 : Nat) : Int) := by omega
  go_wp2
  go_ret
  exact ⟨g, c3, rfl, hc3, H3.out⟩
/-- Texts that were lent, with the marked room behind them. -/
structure Lent (w : World) (g c : Nat) (ss : List ByteArray) : Prop where
  cap : ss.length + 2 ≤ c
  max : ss.length ≤ 8796093021952
  at' : ∀ i, i < ss.length → w.cell? ⟨g, i, none⟩ = some (.string (ss.getD i ByteArray.empty))
  room : w.cell? ⟨g, ss.length, none⟩ = some (.string roomT)
  behind : w.cell? ⟨g, ss.length + 1, none⟩ = some (.string behindT)
theorem Lent.later {w w' : World} {g c : Nat} {ss : List ByteArray} (h : Lent w g c ss) (hb : Below w.heap.size w w') : Lent w' g c ss :=
  ⟨h.cap, h.max, fun i hi => Tree.cell_later hb (h.at' i hi), Tree.cell_later hb h.room, Tree.cell_later hb h.behind⟩
theorem lent_of {w : World} {B g c : Nat} {ss : List ByteArray} (hc : ss.length + 2 ≤ c) (hn : ss.length ≤ 8796093021952) (h : w.ownsRow B 9 1 (.slice (some ⟨g, 0, none⟩) (ss.length + 2) c) (ss.length + 2) (cellsT ss ++ [.string roomT, .string behindT])) : Lent w g c ss := by
  have hl : (cellsT ss).length = ss.length := by simp [cellsT]
  refine ⟨hc, hn, fun i hi => ?_, ?_, ?_⟩
  · rw [h.cellAt i (by omega), List.getElem?_append_left (by omega), cellsT_at ss i hi]
  · rw [h.cellAt _ (by omega), List.getElem?_append_right (by omega), hl, Nat.sub_self]
    rfl
  · rw [h.cellAt _ (by omega), List.getElem?_append_right (by omega), hl, Nat.add_sub_cancel_left]
    rfl
theorem Lent.tx {w : World} {g c : Nat} {ss : List ByteArray} (h : Lent w g c ss) : IsTx w (some ⟨g, 0, none⟩) ss :=
  ⟨by have := h.max; unfold maxLen; omega, .inr ⟨_, rfl, fun i hi => by rw [Addr.add_lit, Nat.zero_add]; exact h.at' i hi⟩⟩
set_option maxRecDepth 20000 in
set_option maxHeartbeats 800000 in
theorem keptTexts (g c : Nat) (a : Option Addr) (cap : Nat) (ss : List ByteArray) (w : World) (h : Hid (Lent w g c ss)) (ha : Hid (IsTx w a ss)) :
    Calls Tryz.prog 30 #[.slice (some ⟨g, 0, none⟩) ss.length c, .slice a ss.length cap] w fun r w' => r = .returned (.bool true) ∧ Below w.heap.size w w' := by
  have hn := h.out.max
  have hc := h.out.cap
  have i0 : (0 : Int) ≤ ((ss.length : Nat) : Int) + 2 := by omega
  have i1 : ((ss.length : Nat) : Int) + 2 ≤ ((c : Nat) : Int) := by omega
  have HX : Hid (IsTx w (some ⟨g, 0, none⟩) ss) := h.out.tx
  go_enter Tryz.func30, Tryz.ntmps30
  go_wp2_with fail
  refine (sameTexts (some ⟨g, 0, none⟩) a c cap ss (by omega) w HX ha).mono ?_
  rintro e w1 ⟨rfl, b1⟩
  have d1 := Tree.cell_later b1 h.out.room
  have d2 := Tree.cell_later b1 h.out.behind
  have j0 : (0 : Int) ≤ ((ss.length : Nat) : Int) := by omega
  have q1 : (roomT.toList == [126, 114, 111, 111, 109]) = true := by decide +kernel
  have q2 : (behindT.toList == [126, 98, 101, 104, 105, 110, 100]) = true := by decide +kernel
  generalize roomT = rT at *
  generalize behindT = bT at *
  go_wp2
  go_ret
  exact ⟨rfl, b1⟩
end Go.Proofs.YtcpfhfdgfcilaaaGreatDoor.Val
