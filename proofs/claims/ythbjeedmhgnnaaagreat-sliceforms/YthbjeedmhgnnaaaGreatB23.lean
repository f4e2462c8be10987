/-
  Several texts in one: An array written over: SpoilArray: which blocks it may turn, and how. · What the laws of slices are awake by: contracts. · Awake, as the laws of slices ask it: its contract.
-/
import Derived.Test.YthbjeedmhgnnaaaGreatB20
import Derived.Test.YthbjeedmhgnnaaaGreatB07
import Derived.Test.YthbjeedmhgnnaaaGreatB13
import Derived.Test.YthbjeedmhgnnaaaGreatB22
import Derived.Test.YthbjeedmhgnnaaaGreatB21
import Derived.Test.YthbjeedmhgnnaaaGreatB02
import Derived.Test.YthbjeedmhgnnaaaGreatB15
set_option linter.unusedVariables false
set_option linter.unusedSimpArgs false
namespace Go.Proofs.YthbjeedmhgnnaaaGreat.Arr
open Go.ChangeShapes Go.WideShapes Go.ChangeAt Go.RowKit
open Tree Val

/-- Of the arrays in these blocks lengths alone may have turned; no other block. -/
structure Spd (ok : Nat → Prop) (w w' : World) : Prop where
  kept : Kept ok w w'
  turn : ∀ b cur, ok b → w.heap[b]? = some (.cells cur 30 (0, 0)) → ∃ cur' : Array Value, w'.heap[b]? = some (.cells cur' 30 (0, 0)) ∧ cur'.size = cur.size ∧ ∀ j, cur'[j]? = cur[j]? ∨ j % 7 = 2 ∧ ∃ x, (Lit.int .i64 x).wf = true ∧ cur'[j]? = some (.int .i64 x)
theorem Spd.refl (ok : Nat → Prop) (w : World) : Spd ok w w := ⟨Kept.refl ok w, fun b cur _ h => ⟨cur, h, rfl, fun j => .inl rfl⟩⟩
theorem Spd.trans {ok : Nat → Prop} {w w1 w2 : World} (h : Spd ok w w1) (k : Spd ok w1 w2) : Spd ok w w2 := by
  refine ⟨⟨k.kept.os.trans h.kept.os, k.kept.tape.trans h.kept.tape, k.kept.output.trans h.kept.output, Nat.le_trans h.kept.size k.kept.size, fun q hq hs => (k.kept.block q (Nat.lt_of_lt_of_le hq h.kept.size) hs).trans (h.kept.block q hq hs)⟩, fun b cur hb hc => ?_⟩
  obtain ⟨c1, h1, h2, h3⟩ := h.turn b cur hb hc
  obtain ⟨c2, k1, k2, k3⟩ := k.turn b c1 hb h1
  refine ⟨c2, k1, k2.trans h2, fun j => ?_⟩
  rcases k3 j with e | e
  · rcases h3 j with e' | ⟨e1, x, e2, e3⟩
    · exact .inl (e.trans e')
    · exact .inr ⟨e1, x, e2, e.trans e3⟩
  · exact .inr e
theorem Spd.wide {ok ok' : Nat → Prop} {w w' : World} (h : Spd ok w w') (hk : ∀ b, ok b → ok' b) : Spd ok' w w' := by
  refine ⟨⟨h.kept.os, h.kept.tape, h.kept.output, h.kept.size, fun q hq hs => h.kept.block q hq (fun c => hs (hk q c))⟩, fun b cur hb hc => ?_⟩
  by_cases c : ok b
  · exact h.turn b cur c hc
  · exact ⟨cur, (h.kept.block b (Array.getElem?_eq_some_iff.1 hc).1 c).trans hc, rfl, fun j => .inl rfl⟩
theorem Spd.below {ok : Nat → Prop} {w w1 w2 : World} (h : Spd ok w w1) (hb : Below w1.heap.size w1 w2) : Spd ok w w2 := by
  refine ⟨h.kept.below hb, fun b cur hk hc => ?_⟩
  obtain ⟨c1, h1, h2, h3⟩ := h.turn b cur hk hc
  exact ⟨c1, (hb.block b (Array.getElem?_eq_some_iff.1 h1).1).trans h1, h2, h3⟩
theorem Spd.set {ok : Nat → Prop} {w : World} {g j : Nat} {x : Int} (hg : ok g) (hj : j % 7 = 2) (hx : (Lit.int .i64 x).wf = true) : Spd ok w (w.setCell ⟨g, j, none⟩ (.int .i64 x)) := by
  refine ⟨(Kept.refl ok w).set hg _, fun b cur hk hc => ?_⟩
  by_cases e : b = g
  · subst e
    refine ⟨_, blk_set hc j _, by simp, fun i => ?_⟩
    by_cases e : i = j
    · subst e
      by_cases hi : i < cur.size
      · exact .inr ⟨hj, x, hx, by simp [hi]⟩
      · exact .inl (by simp [hi])
    · exact .inl (by rw [Array.getElem?_setIfInBounds_ne (Ne.symm e)])
  · exact ⟨cur, (Below.heap_setCell w ⟨g, j, none⟩ _ b e).trans hc, rfl, fun i => .inl rfl⟩
theorem arr_self (a : Arr) : (⟨a.layout, a.offset, a.length, a.valid, a.ends, a.data, a.kids⟩ : Arr) = a := by cases a; rfl
theorem len_holds {B : Nat} {w : World} {f : Nat} {ok : Nat → Prop} {a : Arr} {o : Option Addr} {c : Nat} (h : HoldsO B w f ok (a.cells o c) a) {x : Int} (hx : (Lit.int .i64 x).wf = true) : HoldsO B w f ok (({ a with length := x } : Arr).cells o c) { a with length := x } := by
  cases f with
  | zero => cases h
  | succ f =>
    obtain ⟨o2, c2, e, hk, h3, h4, h5⟩ := h
    have eo : o = o2 ∧ c = c2 := by
      unfold Arr.cells at e
      simp only [List.cons.injEq, Value.slice.injEq, and_true, true_and] at e
      exact e
    obtain ⟨rfl, rfl⟩ := eo
    exact ⟨o, c, rfl, ⟨hk.layout, hk.offset, hx, hk.valid, hk.ends, hk.data⟩, h3, h4, h5⟩
/-- What is left of an array of one's own: its shape. -/
theorem Spd.holds {B : Nat} {ok : Nat → Prop} {w w' : World} (h : Spd ok w w') : ∀ {f : Nat} {okk : Nat → Prop} {cs : List Value} {a : Arr}, (∀ b, okk b → ok b) → HoldsO B w f okk cs a → ∃ ks : List Arr, ks.length = a.kids.length ∧ HoldsO B w' f okk cs { a with kids := ks } := by
  intro f
  induction f with
  | zero => intro okk cs a _ hH; cases hH
  | succ f ih =>
    rintro okk cs a hok ⟨o, cap, h1, h2, h3, h4, h5⟩
    rcases h5 with ⟨e1, e2, e3⟩ | ⟨g, cur, e1, hg, hc, hs, hx⟩
    · refine ⟨a.kids, rfl, ?_⟩
      rw [arr_self a]
      exact ⟨o, cap, h1, h2, h3, h4, .inl ⟨e1, e2, e3⟩⟩
    · obtain ⟨cur', k1, k2, k3⟩ := h.turn g cur (hok g hg) hc
      have hK : ∀ i, ∃ k : Arr, i < a.kids.length → ∃ cs' : List Value, cs'.length = 7 ∧ (∀ j, j < 7 → cur'[i * 7 + j]? = cs'[j]?) ∧ HoldsO B w' f (fun b => okk b ∧ b ≠ g) cs' k := by
        intro i
        by_cases hi : i < a.kids.length
        · obtain ⟨cs', hl, hcc, hh⟩ := hx i hi
          obtain ⟨ks, _, hh'⟩ := ih (fun b hb => hok b hb.1) hh
          cases f with
          | zero => cases hh
          | succ f =>
            obtain ⟨o3, c3, e3, _⟩ := id hh'
            rw [e3] at hh' hl hcc
            rcases k3 (i * 7 + 2) with q | ⟨_, x, hxw, q⟩
            · refine ⟨_, fun _ => ⟨_, hl, fun j hj => ?_, hh'⟩⟩
              rw [← hcc j hj]
              rcases k3 (i * 7 + j) with q' | ⟨q1, _⟩
              · exact q'
              · obtain rfl : j = 2 := by omega
                exact q
            · refine ⟨_, fun _ => ⟨_, rfl, fun j hj => ?_, len_holds hh' hxw⟩⟩
              by_cases ej : j = 2
              · subst ej
                exact q
              · have : cur'[i * 7 + j]? = cur[i * 7 + j]? := by
                  rcases k3 (i * 7 + j) with q' | ⟨q1, _⟩
                  · exact q'
                  · omega
                rw [this, hcc j hj]
                match j, hj, ej with
                | 0, _, _ => rfl
                | 1, _, _ => rfl
                | 3, _, _ => rfl
                | 4, _, _ => rfl
                | 5, _, _ => rfl
                | 6, _, _ => rfl
        · exact ⟨nil, fun c => absurd c hi⟩
      obtain ⟨F, hF⟩ := Classical.axiomOfChoice hK
      have hlen : ((List.range a.kids.length).map F).length = a.kids.length := by simp
      refine ⟨(List.range a.kids.length).map F, hlen, o, cap, ?_, ⟨h2.layout, h2.offset, h2.length, h2.valid, h2.ends, h2.data⟩, ?_, h4, .inr ⟨g, cur', e1, hg, k1, k2.trans hs, fun i hi => ?_⟩⟩
      · rw [h1]
        unfold Arr.cells
        rw [hlen]
      · show ((List.range a.kids.length).map F).length ≤ cap
        rw [hlen]
        exact h3
      · have hi' : i < a.kids.length := by
          have : i < ((List.range a.kids.length).map F).length := hi
          rwa [hlen] at this
        have e : ((List.range a.kids.length).map F).getD i nil = F i := by
          rw [List.getD_eq_getElem?_getD, List.getElem?_map, List.getElem?_range hi']
          rfl
        show ∃ cs', cs'.length = 7 ∧ (∀ j, j < 7 → cur'[i * 7 + j]? = cs'[j]?) ∧ HoldsO B w' f (fun b => okk b ∧ b ≠ g) cs' (((List.range a.kids.length).map F).getD i nil)
        rw [e]
        exact hF i hi'
/-- A kid of an array of one's own, and the block that it stands in. -/
theorem HoldsO.kidO {B : Nat} {w : World} {f : Nat} {ok : Nat → Prop} {a : Arr} {o : Option Addr} {cap : Nat} (h : HoldsO B w (f + 1) ok (a.cells o cap) a) {i : Nat} (hi : i < a.kids.length) :
    ∃ g cur o' cap', o = some ⟨g, 0, none⟩ ∧ ok g ∧ w.heap[g]? = some (.cells cur 30 (0, 0)) ∧ cur.size = cap * 7 ∧ i * 7 + 7 ≤ cur.size ∧ (∀ j v, j < 7 → ((kidAt a i).cells o' cap')[j]? = some v → cur[i * 7 + j]? = some v) ∧ HoldsO B w f (fun b => ok b ∧ b ≠ g) ((kidAt a i).cells o' cap') (kidAt a i) := by
  obtain ⟨o2, c2, e, hk, h3, h4, h5⟩ := h
  have eo : o = o2 ∧ cap = c2 := by
    unfold Arr.cells at e
    simp only [List.cons.injEq, Value.slice.injEq, and_true, true_and] at e
    exact e
  obtain ⟨rfl, rfl⟩ := eo
  rcases h5 with ⟨_, e2, _⟩ | ⟨g, cur, e1, hg, hc, hs, hx⟩
  · rw [e2] at hi; exact absurd hi (Nat.not_lt_zero _)
  · obtain ⟨cs', hl, hcc, hh⟩ := hx i hi
    cases f with
    | zero => cases hh
    | succ f =>
      obtain ⟨o3, c3, e3, _⟩ := id hh
      have hka : a.kids.getD i nil = kidAt a i := rfl
      rw [hka] at hh e3
      rw [e3] at hh hcc
      exact ⟨g, cur, o3, c3, e1, hg, hc, hs, by omega, fun j v hj hv => (hcc j hj).trans hv, hh⟩
theorem row_cell {w : World} {g : Nat} {cur : Array Value} {t : TypeId} (h : w.heap[g]? = some (.cells cur t (0, 0))) {j : Nat} {v : Value} (hv : cur[j]? = some v) : w.cell? ⟨g, j, none⟩ = some v := by simp [World.cell?, h, hv]
theorem row_fz {w : World} {g : Nat} {cur : Array Value} {t : TypeId} (h : w.heap[g]? = some (.cells cur t (0, 0))) (j : Nat) : w.frozen? ⟨g, j, none⟩ = false := by simp [World.frozen?, h]
/-- What SpoilArray answers. -/
def SpoilC (B f : Nat) : Prop := ∀ (a : Arr) (o : Option Addr) (cap : Nat) (ok : Nat → Prop) (w : World), HoldsO B w f ok (a.cells o cap) a →
  Calls Tryz.prog 18 #[a.val o cap] w fun r w' => r = .returned (.tuple #[]) ∧ Spd ok w w'
set_option maxRecDepth 20000 in
set_option maxHeartbeats 3200000 in
theorem spoil_step (B f : Nat) (ih : Hid (SpoilC B f)) : SpoilC B (f + 1) := by
  intro a o cap ok w hH
  obtain ⟨w1, e1, x1, b1, z1⟩ := box7 w a o cap
  have B1 : Hid (Below w.heap.size w w1) := b1
  have X1 : Hid (Bx w1 w.heap.size a o cap) := x1
  have HO1 : Hid (HoldsO B w1 (f + 1) (fun b => ok b ∧ b < w.heap.size) (a.cells o cap) a) := hH.lt.stays (fun b hb => b1.block b hb.2) (fun b hb => hb)
  have hlen : a.kids.length ≤ 9223372036854775807 := by
    obtain ⟨o2, cap2, e, _, h3, h4, _⟩ := hH
    unfold maxLen at h4
    omega
  have d6 := X1.out.c6
  unfold Arr.val
  clear x1 b1 hH z1
  go_enter Tryz.func18, Tryz.ntmps18
  go_wp2_with fail
  go_loopw [2] (fun t wr => ∃ k : Nat, k ≤ a.kids.length ∧ t = .int .i64 (k : Int) ∧ Spd (fun b => ok b ∧ b < w.heap.size) w1 wr) (fun t _ => a.kids.length - (intOf t).toNat)
  case atStart => exact ⟨0, Nat.zero_le _, rfl, Spd.refl _ _⟩
  case round =>
    obtain ⟨k, hk, rfl, hsp⟩ := hrel
    have SP : Hid (Spd (fun b => ok b ∧ b < w.heap.size) w1 wr) := hsp
    have XR : Hid (Bx wr w.heap.size a o cap) := ⟨hsp.kept.heap X1.out.blk (fun c => by have := c.2; omega)⟩
    clear d6 hsp
    have d6 := XR.out.c6
    by_cases hlt : k < a.kids.length
    · obtain ⟨ks, hks, hhr⟩ := SP.out.holds (fun b hb => hb) HO1.out
      have hcs : a.cells o cap = ({ a with kids := ks } : Arr).cells o cap := by unfold Arr.cells; rw [hks]
      rw [hcs] at hhr
      obtain ⟨g, cur, ok', ck', rfl, hg, hcur, hsz, hroom, hcc, hkk⟩ := hhr.kidO (i := k) (by show k < ks.length; omega)
      generalize kidAt ({ a with kids := ks } : Arr) k = kk at *
      have k0 : wr.cell? ⟨g, k * 7, none⟩ = some (.int .i64 kk.layout) := row_cell hcur (hcc 0 _ (by omega) rfl)
      have k1 : wr.cell? ⟨g, k * 7 + 1, none⟩ = some (.int .i64 kk.offset) := row_cell hcur (hcc 1 _ (by omega) rfl)
      have k2 : wr.cell? ⟨g, k * 7 + 2, none⟩ = some (.int .i64 kk.length) := row_cell hcur (hcc 2 _ (by omega) rfl)
      have k3 : wr.cell? ⟨g, k * 7 + 3, none⟩ = some (.string kk.valid) := row_cell hcur (hcc 3 _ (by omega) rfl)
      have k4 : wr.cell? ⟨g, k * 7 + 4, none⟩ = some (.string kk.ends) := row_cell hcur (hcc 4 _ (by omega) rfl)
      have k5 : wr.cell? ⟨g, k * 7 + 5, none⟩ = some (.string kk.data) := row_cell hcur (hcc 5 _ (by omega) rfl)
      have k6 : wr.cell? ⟨g, k * 7 + 6, none⟩ = some (.slice ok' kk.kids.length ck') := row_cell hcur (hcc 6 _ (by omega) rfl)
      have HMM : Hid (Calls Tryz.prog 18 #[kk.val ok' ck'] wr fun r w' => r = .returned (.tuple #[]) ∧ Spd (fun b => (ok b ∧ b < w.heap.size) ∧ b ≠ g) wr w') := ih.out kk ok' ck' _ wr hkk
      have HG : Hid (ok g ∧ g < w.heap.size) := hg
      have HCU : Hid (wr.heap[g]? = some (.cells cur 30 (0, 0)) ∧ cur[k * 7 + 2]? = some (.int .i64 kk.length)) := ⟨hcur, hcc 2 _ (by omega) rfl⟩
      have i1 : (k : Int) < ((a.kids.length : Nat) : Int) := by omega
      have i0 : (0 : Int) ≤ (k : Int) := Int.natCast_nonneg _
      unfold Arr.val at HMM
      clear hhr hcs hg hcur hsz hroom hcc hkk hks
      go_wp2_with fail
      refine HMM.out.mono ?_
      rintro e v ⟨rfl, hs⟩
      have SV : Hid (Spd (fun b => (ok b ∧ b < w.heap.size) ∧ b ≠ g) wr v) := hs
      have XV : Hid (Bx v w.heap.size a (some ⟨g, 0, none⟩) cap) := ⟨hs.kept.heap XR.out.blk (fun c => by have := c.1.2; omega)⟩
      have HCV : Hid (v.heap[g]? = some (.cells cur 30 (0, 0))) := hs.kept.heap HCU.out.1 (fun c => c.2 rfl)
      clear d6 k0 k1 k2 k3 k4 k5 k6 hs
      have d6 := XV.out.c6
      have k2 : v.cell? ⟨g, k * 7 + 2, none⟩ = some (.int .i64 kk.length) := row_cell HCV.out HCU.out.2
      have f2 : v.frozen? ⟨g, k * 7 + 2, none⟩ = false := row_fz HCV.out _
      have HN : Hid (∀ u x, Below v.heap.size v u → (Lit.int .i64 x).wf = true → Spd (fun b => ok b ∧ b < w.heap.size) w1 (u.setCell ⟨g, k * 7 + 2, none⟩ (.int .i64 x))) := fun u x hu hx => (SP.out.trans ((SV.out.wide (fun b hb => hb.1)).below hu)).trans (Spd.set HG.out (by omega) hx)
      go_wp2
      go_region
      go_wp2
      go_roundw
      case rel =>
        refine ⟨k + 1, by omega, by go_num, Spd.below (HN.out _ _ (Below.refl _ _) ?_) ((Below.refl _ _).drew)⟩
        go_wf2
      case measure => simp [intOf]; omega
    · obtain rfl : k = a.kids.length := by omega
      have HF : Hid (Spd ok w wr) := by
        have h := SP.out
        have h0 : Spd (fun b => ok b ∧ b < w.heap.size) w w1 := (Spd.refl _ w).below B1.out
        exact (h0.trans h).wide (fun b hb => hb.1)
      go_wp2
      go_end0
      exact ⟨rfl, HF.out⟩
theorem spoilA (B : Nat) : ∀ f, SpoilC B f := by
  intro f
  induction f with
  | zero => intro a o cap ok w hH; cases hH
  | succ f ih => exact spoil_step B f ih
end Go.Proofs.YthbjeedmhgnnaaaGreat.Arr
set_option linter.unusedVariables false
set_option linter.unusedSimpArgs false
namespace Go.Proofs.YthbjeedmhgnnaaaGreat.Arr
open Go.ChangeShapes Go.WideShapes Go.ChangeAt Go.RowKit
open Tree Val

/-- Texts that are laid out at once. -/
theorem tx_lit (w : World) (ss : List ByteArray) (h : ss.length ≤ maxLen) : ∃ w1, w.alloc (.cells (Texts.cellsT ss).toArray 9) = w1 ∧ Texts.IsTx w1 (some ⟨w.heap.size, 0, none⟩) ss ∧ Below w.heap.size w w1 := by
  refine ⟨_, rfl, ⟨h, .inr ⟨_, rfl, fun i hi => ?_⟩⟩, (Below.refl _ _).alloc (Nat.le_refl _) _⟩
  have := Texts.cellsT_at ss i hi
  rw [add0]
  simp only [World.cell?, heap_alloc_new]
  rw [List.getElem?_toArray, this]
  rfl
set_option maxRecDepth 20000 in
set_option maxHeartbeats 1600000 in
theorem intsS (w : World) : Calls Tryz.prog 39 #[] w fun r w' => ∃ g : Nat, r = .returned (.agg #[.slice (some ⟨g, 0, none⟩) 1 1]) ∧ Lies w' ⟨g, 0, none⟩ awT ∧ Below w.heap.size w w' := by
  obtain ⟨w1, e1, s1, c1, b1⟩ := boxed w (.slice none 0 0) 27
  have hf1 : w1.heap[w.heap.size]? = some (.cells #[.slice none 0 0] 27) := by rw [← e1]; exact heap_alloc_new _ _
  obtain ⟨w2, e2, c20, c21, c22, b2⟩ := box3n w1 ⟨0, -1, true⟩
  have e2' : w1.alloc (.cells #[.int .i64 0, .int .i64 (-1), .bool true] 24) = w2 := e2
  have hs2 : w1.heap.size < w2.heap.size := World.block_lt_of_cell? _ _ c20
  have hf2 := (b2.block _ s1).trans hf1
  have c := cell_later b2 c1
  have fr : w2.frozen? ⟨w.heap.size, 0, none⟩ = false := by simp [World.frozen?, hf2]
  obtain ⟨w3, e3⟩ : ∃ w3, w2.setCell ⟨w.heap.size, 0, none⟩ (.slice (some ⟨w1.heap.size, 0, none⟩) 1 1) = w3 := ⟨_, rfl⟩
  have hb3 : ∀ b, b ≠ w.heap.size → w3.heap[b]? = w2.heap[b]? := fun b hb => by rw [← e3]; exact Below.heap_setCell _ _ _ _ hb
  have B3 : Hid (Below w.heap.size w w3) := by rw [← e3]; exact (bel2 b1 b2).setCell (Nat.le_refl _) _
  have hv : w3.cell? ⟨w.heap.size, 0, none⟩ = some (.slice (some ⟨w1.heap.size, 0, none⟩) 1 1) := by
    have := blk_set hf2 0 (.slice (some ⟨w1.heap.size, 0, none⟩) 1 1)
    rw [e3] at this
    simp [World.cell?, this]
  have hq : ∀ j v, w2.cell? ⟨w1.heap.size, j, none⟩ = some v → w3.cell? ⟨w1.heap.size, j, none⟩ = some v := fun j v h => (World.cell?_of_block (a := ⟨w1.heap.size, j, none⟩) (hb3 _ (by show w1.heap.size ≠ w.heap.size; omega))).trans h
  have HL : Hid (Lies w3 ⟨w1.heap.size, 0, none⟩ awT) := by
    constructor
    · intro i hi
      obtain rfl : i = 0 := by have : awT.length = 1 := rfl; omega
      exact hq 0 _ c20
    · intro i hi
      obtain rfl : i = 0 := by have : awT.length = 1 := rfl; omega
      exact hq 1 _ c21
    · intro i hi
      obtain rfl : i = 0 := by have : awT.length = 1 := rfl; omega
      exact hq 2 _ c22
  clear e2 c20 c21 c22 hf1 hf2 b1 b2 hb3 hq
  go_enter Tryz.func39, Tryz.ntmps39
  go_wp2_with fail
  try rw [e3]
  exact bodyPost_ret (v := .agg #[.slice (some ⟨w1.heap.size, 0, none⟩) 1 1]) (by simp [results, Tryz.results39, go_sem, hv]) rfl ⟨w1.heap.size, rfl, HL.out, B3.out⟩
theorem isT_aw {w : World} {g : Nat} (h : Lies w ⟨g, 0, none⟩ awT) : IsT w (some ⟨g, 0, none⟩) awT := ⟨by decide, .inr ⟨_, rfl, h⟩⟩
def gvT : List ByteArray := [⟨#[105, 53, 59]⟩, ⟨#[110]⟩, ⟨#[105, 55, 59]⟩, ⟨#[105, 55, 59]⟩]
def gvA : Arr := ⟨0, 0, 4, ⟨#[13]⟩, ⟨#[]⟩, ⟨#[5, 0, 0, 0, 0, 0, 0, 0, 0, 0, 0, 0, 0, 0, 0, 0, 7, 0, 0, 0, 0, 0, 0, 0, 7, 0, 0, 0, 0, 0, 0, 0]⟩, []⟩
/-- The document's Build of whole numbers that may be nothing. -/
theorem buildAw (ss : List ByteArray) (oT : Option Addr) (capT : Nat) (o : Option Addr) (cap : Nat) (w : World) (h64 : ss.length ≤ 64) (hx : Texts.IsTx w o ss) (ht : IsT w oT awT) :
    Calls Tryz.prog 9 #[.agg #[.slice oT awT.length capT], .int .i64 0, .slice o ss.length cap] w (BdQ 4096 awT 0 ss w) :=
  buildA_of 4096 (Nat.le_refl _) awT oT capT 0 ss o cap w (by omega) hx ht fun n wr e hn hm hF hb => by
    obtain rfl : n = 0 := by omega
    exact buildInt 4096 7 7 (Nat.le_refl _) awT oT capT 0 ss o cap wr hn hm hF h64 (hx.later hb) (ht.later hb) (by decide)
theorem gv_is : bdA awT 0 gvT = gvA := by kernel_rfl
theorem gv_no : bdE awT 0 gvT = 0 := by decide +kernel
set_option maxRecDepth 20000 in
set_option maxHeartbeats 1600000 in
theorem givenS (w : World) : Calls Tryz.prog 40 #[] w fun r w' => ∃ o c, r = .returned (gvA.val o c) ∧ HoldsO 4096 w' 8 (fun b => w.heap.size ≤ b) (gvA.cells o c) gvA ∧ Below w.heap.size w w' := by
  obtain ⟨w1, e1', x1, b1, z1⟩ := box7 w nil none 0
  have e1 : w.alloc (.cells #[.int .i64 0, .int .i64 0, .int .i64 0, .string ⟨#[]⟩, .string ⟨#[]⟩, .string ⟨#[]⟩, .slice none 0 0] 30) = w1 := e1'
  have B1 : Hid (Below w.heap.size w w1) := b1
  have X1 : Hid (Bx w1 w.heap.size nil none 0) := x1
  clear e1' x1 b1
  go_enter Tryz.func40, Tryz.ntmps40
  go_wp2_with fail
  refine (intsS w1).mono ?_
  rintro e w2 ⟨g, rfl, hl, b2⟩
  obtain ⟨w3, e3', ht3, b3⟩ := tx_lit w2 gvT (by decide)
  have e3 : w2.alloc (.cells #[.string ⟨#[105, 53, 59]⟩, .string ⟨#[110]⟩, .string ⟨#[105, 55, 59]⟩, .string ⟨#[105, 55, 59]⟩] 9) = w3 := e3'
  have B3 : Hid (Below w.heap.size w w3) := bel2 B1.out (bel2 b2 b3)
  have X3 : Hid (Bx w3 w.heap.size nil none 0) := X1.out.later (bel2 b2 b3)
  have HB : Hid (Calls Tryz.prog 9 #[.agg #[.slice (some ⟨g, 0, none⟩) 1 1], .int .i64 0, .slice (some ⟨w2.heap.size, 0, none⟩) 4 4] w3 fun r w' => ∃ o c, r = .returned (.tuple #[gvA.val o c, .int .i64 0]) ∧ HoldsO 4096 w' 8 (fun b => w3.heap.size ≤ b) (gvA.cells o c) gvA ∧ Below w3.heap.size w3 w') := by
    have := buildAw gvT (some ⟨g, 0, none⟩) 1 (some ⟨w2.heap.size, 0, none⟩) 4 w3 (by decide) ht3 (isT_aw (hl.later b3))
    unfold BdQ at this
    rw [gv_is, gv_no] at this
    exact this
  clear e3' ht3 b3 hl b2
  unfold Arr.val at HB
  go_wp2_with fail
  refine HB.out.mono ?_
  rintro e w4 ⟨o4, c4, rfl, hh, b4⟩
  have HO : Hid (HoldsO 4096 w4 8 (fun b => w3.heap.size ≤ b) (gvA.cells o4 c4) gvA) := hh
  have B4 : Hid (Below w.heap.size w w4) := bel2 B3.out b4
  have X4 : Hid (Bx w4 w.heap.size nil none 0) := X3.out.later b4
  obtain ⟨w5, e5', x5, b5, z5⟩ := box7 w4 nil none 0
  have e5 : w4.alloc (.cells #[.int .i64 0, .int .i64 0, .int .i64 0, .string ⟨#[]⟩, .string ⟨#[]⟩, .string ⟨#[]⟩, .slice none 0 0] 30) = w5 := e5'
  have hlt4 : w.heap.size < w4.heap.size := X4.out.lt
  have hle3 : w.heap.size ≤ w3.heap.size := B3.out.size
  have m0 := x5.c0
  have m1 := x5.c1
  have m2 := x5.c2
  have m3 := x5.c3
  have m4 := x5.c4
  have m5 := x5.c5
  have m6 := x5.c6
  have f0 := x5.fz 0
  have f1 := x5.fz 1
  have f2 := x5.fz 2
  have f3 := x5.fz 3
  have f4 := x5.fz 4
  have f5 := x5.fz 5
  have f6 := x5.fz 6
  obtain ⟨w6, e6, x6, h6, b6⟩ := set7 x5 gvA o4 c4
  have X6 : Hid (Bx w6 w4.heap.size gvA o4 c4) := x6
  have B46 : Hid (Below w4.heap.size w4 w6) := b5.trans (b6 _ (Nat.le_refl _))
  have XR : Hid (Bx w6 w.heap.size nil none 0) := X4.out.later B46.out
  unfold nil at m0 m1 m2 m3 m4 m5 m6
  clear hh b4 e5' x5 b5 z5 x6 h6 b6
  generalize hGE : gvA = G at *
  have HGE : Hid (gvA = G) := hGE
  clear hGE
  go_upto_region 2 with fail
  try rw [e6]
  clear e5 e6 m0 m1 m2 m3 m4 m5 m6 f0 f1 f2 f3 f4 f5 f6
  have y0 := X6.out.c0
  have y1 := X6.out.c1
  have y2 := X6.out.c2
  have y3 := X6.out.c3
  have y4 := X6.out.c4
  have y5 := X6.out.c5
  have y6 := X6.out.c6
  have u0 := XR.out.c0
  have u1 := XR.out.c1
  have u2 := XR.out.c2
  have u3 := XR.out.c3
  have u4 := XR.out.c4
  have u5 := XR.out.c5
  have u6 := XR.out.c6
  have v0 := XR.out.fz 0
  have v1 := XR.out.fz 1
  have v2 := XR.out.fz 2
  have v3 := XR.out.fz 3
  have v4 := XR.out.fz 4
  have v5 := XR.out.fz 5
  have v6 := XR.out.fz 6
  unfold nil at u0 u1 u2 u3 u4 u5 u6
  obtain ⟨w7, e7, x7, h7, b7⟩ := set7 XR.out G o4 c4
  have HB7 : Hid (Below w.heap.size w w7) := (bel2 B4.out B46.out).trans (b7 _ (Nat.le_refl _))
  have HO7 : Hid (HoldsO 4096 w7 8 (fun b => w.heap.size ≤ b) (G.cells o4 c4) G) := HO.out.lt.stays (fun b hb => (h7 b (by have h1 := hb.1; have h2 : w.heap.size < w3.heap.size := X3.out.lt; omega)).trans (B46.out.block b hb.2)) (fun b hb => Nat.le_trans hle3 hb.1)
  have q0 := x7.c0
  have q1 := x7.c1
  have q2 := x7.c2
  have q3 := x7.c3
  have q4 := x7.c4
  have q5 := x7.c5
  have q6 := x7.c6
  clear x7 h7 b7
  go_wp2_with fail
  try rw [e7]
  exact bodyPost_ret (v := .agg #[.int .i64 G.layout, .int .i64 G.offset, .int .i64 G.length, .string G.valid, .string G.ends, .string G.data, .slice o4 G.kids.length c4]) (by simp [results, Tryz.results40, go_sem, q0, q1, q2, q3, q4, q5, q6]) rfl ⟨o4, c4, by rw [HGE.out]; rfl, by rw [HGE.out]; exact HO7.out, HB7.out⟩
set_option maxRecDepth 20000 in
set_option maxHeartbeats 1600000 in
theorem valsS (B f : Nat) (a : Arr) (o : Option Addr) (cap : Nat) (w : World) (hH : Hid (HoldsF B 96 w (f + 1) (a.cells o cap) a)) (he : valsE awT 0 (f + 1) a = 0) :
    Calls Tryz.prog 41 #[a.val o cap] w fun r w' => ∃ ov cv, r = .returned (.slice ov (valsA awT 0 (f + 1) a).length cv) ∧ Texts.IsTx w' ov (valsA awT 0 (f + 1) a) ∧ Below w.heap.size w w' := by
  obtain ⟨w1, e1, x1, b1, z1⟩ := box7 w a o cap
  have X1 : Hid (Bx w1 w.heap.size a o cap) := x1
  have B1 : Hid (Below w.heap.size w w1) := b1
  have HV : Hid (∀ v (g : Nat), Below w.heap.size w v → Lies v ⟨g, 0, none⟩ awT → Calls Tryz.prog 20 #[.agg #[.slice (some ⟨g, 0, none⟩) 1 1], .int .i64 0, a.val o cap] v fun r w' => ∃ ov cv, r = .returned (.tuple #[.slice ov (valsA awT 0 (f + 1) a).length cv, .int .i64 0]) ∧ Texts.IsTx w' ov (valsA awT 0 (f + 1) a) ∧ Below v.heap.size v w') := fun v g hv hl => by
    have := valuesA B f awT (some ⟨g, 0, none⟩) 1 0 a o cap v (isT_aw hl) (hH.out.later hv)
    rw [he] at this
    refine this.mono ?_
    rintro e w' ⟨ov, cv, rfl, h1, h2⟩
    exact ⟨ov, cv, rfl, Texts.own_texts h1, h2⟩
  generalize valsA awT 0 (f + 1) a = V at *
  clear x1 b1 z1 hH he
  unfold Arr.val at HV ⊢
  have d0 := X1.out.c0
  have d1 := X1.out.c1
  have d2 := X1.out.c2
  have d3 := X1.out.c3
  have d4 := X1.out.c4
  have d5 := X1.out.c5
  have d6 := X1.out.c6
  go_enter Tryz.func41, Tryz.ntmps41
  go_wp2_with fail
  have HK : Hid (∀ v, Below w1.heap.size w1 v → v.cell? ⟨w.heap.size, 0, none⟩ = some (.int .i64 a.layout) ∧ v.cell? ⟨w.heap.size, 1, none⟩ = some (.int .i64 a.offset) ∧ v.cell? ⟨w.heap.size, 2, none⟩ = some (.int .i64 a.length) ∧ v.cell? ⟨w.heap.size, 3, none⟩ = some (.string a.valid) ∧ v.cell? ⟨w.heap.size, 4, none⟩ = some (.string a.ends) ∧ v.cell? ⟨w.heap.size, 5, none⟩ = some (.string a.data) ∧ v.cell? ⟨w.heap.size, 6, none⟩ = some (.slice o a.kids.length cap)) := fun v hv => by
    have Y := X1.out.later hv
    exact ⟨Y.c0, Y.c1, Y.c2, Y.c3, Y.c4, Y.c5, Y.c6⟩
  have KR : Hid (w1.drew.cell? ⟨w.heap.size, 0, none⟩ = some (.int .i64 a.layout) ∧ w1.drew.cell? ⟨w.heap.size, 1, none⟩ = some (.int .i64 a.offset) ∧ w1.drew.cell? ⟨w.heap.size, 2, none⟩ = some (.int .i64 a.length) ∧ w1.drew.cell? ⟨w.heap.size, 3, none⟩ = some (.string a.valid) ∧ w1.drew.cell? ⟨w.heap.size, 4, none⟩ = some (.string a.ends) ∧ w1.drew.cell? ⟨w.heap.size, 5, none⟩ = some (.string a.data) ∧ w1.drew.cell? ⟨w.heap.size, 6, none⟩ = some (.slice o a.kids.length cap)) := HK.out _ (drewN_below w1 1)
  clear d0 d1 d2 d3 d4 d5 d6
  refine wp_region_noPanic ?_
  refine wp_region_held_drew (S := fun W : World => W.cell? ⟨w.heap.size, 0, none⟩ = some (.int .i64 a.layout) ∧ W.cell? ⟨w.heap.size, 1, none⟩ = some (.int .i64 a.offset) ∧ W.cell? ⟨w.heap.size, 2, none⟩ = some (.int .i64 a.length) ∧ W.cell? ⟨w.heap.size, 3, none⟩ = some (.string a.valid) ∧ W.cell? ⟨w.heap.size, 4, none⟩ = some (.string a.ends) ∧ W.cell? ⟨w.heap.size, 5, none⟩ = some (.string a.data) ∧ W.cell? ⟨w.heap.size, 6, none⟩ = some (.slice o a.kids.length cap)) (by kernel_rfl) KR.out (fun h0 => ?_)
  have BD : Hid (Below w1.heap.size w1 w1.drew) := drewN_below w1 1
  generalize w1.drew = wd at *
  refine take_at (i := 1) (d := some 7) (v := ?v1a) rfl rfl (by kernel_rfl) (by kernel_rfl) (by kernel_rfl) (fun _ _ _ h => h) (Or.inl ⟨by rfl, ?y1a⟩) h0 ?r1a
  case y1a => (intro w' hSw; (try dsimp only at hSw); go_simp; try with_reducible rfl)
  try simp only [Act.put, List.setIfInBounds_toArray, List.set_cons_zero, List.set_cons_succ]
  refine wpAnyH_ready (rs := [0]) (by kernel_rfl) (by simp) ?_
  refine AllReadyH.cons rfl (fun K hK => ?_) AllReadyH.nil
  go_simp
  go_at_call 39
  refine (intsS wd).mono ?_
  rintro e v1 ⟨g, rfl, hl, bb⟩
  have HL1 : Hid (Lies v1 ⟨g, 0, none⟩ awT) := hl
  have BV1 : Hid (Below w1.heap.size w1 v1) := bel2 BD.out bb
  clear hl bb
  refine hK.out _ _ (HK.out v1 BV1.out) (fun h1 => ?_)
  clear hK K
  try simp only [Act.put, List.setIfInBounds_toArray, List.set_cons_zero, List.set_cons_succ]
  refine wpAnyH_ready (rs := [2]) (by kernel_rfl) (by simp) ?_
  refine AllReadyH.cons rfl (fun K hK => ?_) AllReadyH.nil
  go_simp
  go_at_call 20
  refine (HV.out v1 g (bel2 B1.out BV1.out) HL1.out).mono ?_
  rintro e v2 ⟨ov, cv, rfl, htx, bb⟩
  have HTX : Hid (Texts.IsTx v2 ov V) := htx
  have BV2 : Hid (Below w1.heap.size w1 v2) := bel2 BV1.out bb
  clear htx bb
  refine hK.out _ _ (HK.out v2 BV2.out) (fun h2 => ?_)
  clear hK K
  try simp only [Act.put, List.setIfInBounds_toArray, List.set_cons_zero, List.set_cons_succ]
  refine take_at (i := 3) (d := some 5) (v := ?v3b) rfl rfl (by kernel_rfl) (by kernel_rfl) (by kernel_rfl) (fun _ _ _ h => h) (Or.inl ⟨by rfl, ?y3b⟩) h2 ?r3b
  case y3b => (intro w' hSw; (try dsimp only at hSw); go_simp; try with_reducible rfl)
  try simp only [Act.put, List.setIfInBounds_toArray, List.set_cons_zero, List.set_cons_succ]
  refine take_at (i := 4) (d := some 9) (v := ?v4b) rfl rfl (by kernel_rfl) (by kernel_rfl) (by kernel_rfl) (fun _ _ _ h => h) (Or.inl ⟨by rfl, ?y4b⟩) h2 ?r4b
  case y4b => (intro w' hSw; (try dsimp only at hSw); go_simp; try with_reducible rfl)
  try simp only [Act.put, List.setIfInBounds_toArray, List.set_cons_zero, List.set_cons_succ]
  refine take_at (i := 5) (d := some 10) (v := ?v5b) rfl rfl (by kernel_rfl) (by kernel_rfl) (by kernel_rfl) (fun _ _ _ h => h) (Or.inl ⟨by rfl, ?y5b⟩) h2 ?r5b
  case y5b => (intro w' hSw; (try dsimp only at hSw); go_simp; try with_reducible rfl)
  try simp only [Act.put, List.setIfInBounds_toArray, List.set_cons_zero, List.set_cons_succ]
  refine take_at (i := 6) (d := some 3) (v := ?v6b) rfl rfl (by kernel_rfl) (by kernel_rfl) (by kernel_rfl) (fun _ _ _ h => h) (Or.inl ⟨by rfl, ?y6b⟩) h2 ?r6b
  case y6b => (intro w' hSw; (try dsimp only at hSw); go_simp; try with_reducible rfl)
  try simp only [Act.put, List.setIfInBounds_toArray, List.set_cons_zero, List.set_cons_succ]
  refine take_at (i := 7) (d := some 4) (v := ?v7b) rfl rfl (by kernel_rfl) (by kernel_rfl) (by kernel_rfl) (fun _ _ _ h => h) (Or.inl ⟨by rfl, ?y7b⟩) h2 ?r7b
  case y7b => (intro w' hSw; (try dsimp only at hSw); go_simp; try with_reducible rfl)
  try simp only [Act.put, List.setIfInBounds_toArray, List.set_cons_zero, List.set_cons_succ]
  refine wpAnyH_done (by kernel_rfl) ?_ _
  refine NoPanic.normal ?_
  go_wp2
  go_ret
  exact ⟨ov, cv, rfl, HTX.out, bel2 B1.out BV2.out⟩
end Go.Proofs.YthbjeedmhgnnaaaGreat.Arr
set_option linter.unusedVariables false
set_option linter.unusedSimpArgs false
namespace Go.Proofs.YthbjeedmhgnnaaaGreat.Arr
open Go.ChangeShapes Go.WideShapes Go.ChangeAt Go.RowKit
open Tree Val

/-- A box that is filled, where an array of one's own lies beside it. -/
theorem meetS {B f : Nat} {w5 v3 : World} {A : Arr} {o : Option Addr} {c p : Nat} (hx : Bx v3 p nil none 0) (hp : w5.heap.size ≤ p) (hO : HoldsO B v3 f (fun b => w5.heap.size ≤ b ∧ b ≠ p) (A.cells o c) A) (hB : Below w5.heap.size w5 v3) :
    ∃ v4, (((((((v3.setCell ⟨p, 0, none⟩ (.int .i64 A.layout)).setCell ⟨p, 1, none⟩ (.int .i64 A.offset)).setCell ⟨p, 2, none⟩ (.int .i64 A.length)).setCell ⟨p, 3, none⟩ (.string A.valid)).setCell ⟨p, 4, none⟩ (.string A.ends)).setCell ⟨p, 5, none⟩ (.string A.data)).setCell ⟨p, 6, none⟩ (.slice o A.kids.length c)) = v4 ∧ Bx v4 p A o c ∧ HoldsO B v4 f (fun b => w5.heap.size ≤ b) (A.cells o c) A ∧ Below w5.heap.size w5 v4 := by
  obtain ⟨v4, e4, x4, h4, b4⟩ := set7 hx A o c
  exact ⟨v4, e4, x4, hO.stays (fun b hb => h4 b hb.2) (fun b hb => hb.1), hB.trans (b4 _ hp)⟩
def gvB : Arr := cutA gvA 1 2
def gvC : Arr := cutA gvB 1 1
def gvL : Arr := ⟨0, 0, 1, ⟨#[]⟩, ⟨#[]⟩, ⟨#[]⟩, []⟩
theorem gvB_no : slE awT 0 8 gvA 1 2 = 0 := by decide +kernel
theorem gvB_is : slA awT 0 8 gvA 1 2 = gvB := by kernel_rfl
theorem gvC_no : slE awT 0 8 gvB 1 1 = 0 := by decide +kernel
theorem gvC_is : slA awT 0 8 gvB 1 1 = gvC := by kernel_rfl
theorem gvD_no : slE awT 0 8 gvB 1 2 = 1101 := by decide +kernel
theorem gvD_is : slA awT 0 8 gvB 1 2 = nil := by kernel_rfl
theorem gvE_no : slE awT 0 1 gvL 0 1 = 1100 := by decide +kernel
theorem gvE_is : slA awT 0 1 gvL 0 1 = nil := by kernel_rfl
def gvV : List ByteArray := [⟨#[110]⟩, ⟨#[105, 55, 59]⟩]
def gvW : List ByteArray := [⟨#[105, 55, 59]⟩]
theorem gvV_is : valsA awT 0 8 gvB = gvV := by kernel_rfl
theorem gvV_no : valsE awT 0 8 gvB = 0 := by decide +kernel
theorem gvW_is : valsA awT 0 8 gvC = gvW := by kernel_rfl
theorem gvW_no : valsE awT 0 8 gvC = 0 := by decide +kernel
theorem gvB_off : gvB.offset = 1 := by decide +kernel
theorem gvL_ok : gvL.ok 4096 := ⟨by decide, by decide, by decide, by decide +kernel, by decide +kernel, by decide +kernel⟩
/-- A slice of what is given: contract. -/
theorem sliceAt (B f : Nat) (a A : Arr) (E i c : Int) (o : Option Addr) (cap : Nat) (w : World) (hi : (Lit.int .i64 i).wf = true) (hc : (Lit.int .i64 c).wf = true) (hE : slE awT 0 (f + 1) a i c = E) (hA : slA awT 0 (f + 1) a i c = A) (hH : Hid (HoldsF B 96 w (f + 1) (a.cells o cap) a)) :
    Hid (∀ v (g : Nat), Below w.heap.size w v → Lies v ⟨g, 0, none⟩ awT → Calls Tryz.prog 15 #[.agg #[.slice (some ⟨g, 0, none⟩) 1 1], .int .i64 0, a.val o cap, .int .i64 i, .int .i64 c] v fun r w' => ∃ o' c', r = .returned (.tuple #[A.val o' c', .int .i64 E]) ∧ HoldsO B w' (f + 1) (fun b => v.heap.size ≤ b) (A.cells o' c') A ∧ Below v.heap.size v w') := fun v g hv hl => by
  have := sliceP B f awT (some ⟨g, 0, none⟩) 1 0 a o cap i c hi hc v (isT_aw hl) (hH.out.later hv)
  unfold SlQ at this
  rw [hE, hA] at this
  exact this
set_option maxRecDepth 20000 in
set_option maxHeartbeats 6400000 in
theorem awakeS (w : World) : Calls Tryz.prog 19 #[] w fun r w' => r = .returned (.bool true) ∧ Below w.heap.size w w' := by
  obtain ⟨BB, hBB⟩ : ∃ BB, upB 4096 = BB := ⟨_, rfl⟩
  go_enter Tryz.func19, Tryz.ntmps19
  go_wp2_with fail
  refine (intsS w).mono ?_
  rintro e v1 ⟨g, rfl, hl, b1⟩
  have HL1 : Hid (Lies v1 ⟨g, 0, none⟩ awT) := hl
  have B1 : Hid (Below w.heap.size w v1) := b1
  clear hl b1
  go_wp2_with fail
  refine (givenS v1).mono ?_
  rintro e v2 ⟨og, cg, rfl, hg, b2⟩
  have HG : Hid (HoldsF (upB 4096) 96 v2 8 (gvA.cells og cg) gvA) := hg.holds
  have B2 : Hid (Below w.heap.size w v2) := bel2 B1.out b2
  have HL2 : Hid (Lies v2 ⟨g, 0, none⟩ awT) := HL1.out.later b2
  have HSA := sliceAt (upB 4096) 7 gvA gvB 0 1 2 og cg v2 (by decide) (by decide) gvB_no gvB_is HG
  clear hg b2
  rw [hBB] at HSA HG
  unfold Arr.val at HSA ⊢
  generalize hA1 : gvB = A1 at *
  have EA1 : Hid (gvB = A1) := hA1
  clear hA1
  generalize gvA = A0 at *
  go_wp2_with fail
  refine (HSA.out v2 g (Below.refl _ _) HL2.out).mono ?_
  rintro e v3 ⟨o1, c1, rfl, hh1, b3⟩
  have B3 : Hid (Below w.heap.size w v3) := bel2 B2.out b3
  have HO1 : Hid (HoldsO BB v3 8 (fun b => v2.heap.size ≤ b) (A1.cells o1 c1) A1) := hh1
  obtain ⟨v4, e4', x4, b4, z4⟩ := box7 v3 nil none 0
  have e4 : v3.alloc (.cells #[.int .i64 0, .int .i64 0, .int .i64 0, .string ⟨#[]⟩, .string ⟨#[]⟩, .string ⟨#[]⟩, .slice none 0 0] 30) = v4 := e4'
  have m0 := x4.c0
  have m1 := x4.c1
  have m2 := x4.c2
  have m3 := x4.c3
  have m4 := x4.c4
  have m5 := x4.c5
  have m6 := x4.c6
  have f0 := x4.fz 0
  have f1 := x4.fz 1
  have f2 := x4.fz 2
  have f3 := x4.fz 3
  have f4 := x4.fz 4
  have f5 := x4.fz 5
  have f6 := x4.fz 6
  obtain ⟨w5, e5, x5, h5, b5⟩ := set7 x4 A1 o1 c1
  have X5 : Hid (Bx w5 v3.heap.size A1 o1 c1) := x5
  have B35 : Hid (Below v3.heap.size v3 w5) := b4.trans (b5 _ (Nat.le_refl _))
  have B5 : Hid (Below w.heap.size w w5) := bel2 B3.out B35.out
  have HF1 : Hid (HoldsF (upB BB) 96 w5 8 (A1.cells o1 c1) A1) := (HO1.out.holds).later B35.out
  unfold nil at m0 m1 m2 m3 m4 m5 m6
  clear hh1 b3 e4' x4 b4 z4 x5 h5 b5 HSA
  go_upto_region 2 with fail
  try rw [e5]
  clear e4 e5 m0 m1 m2 m3 m4 m5 m6 f0 f1 f2 f3 f4 f5 f6
  have HS2 := sliceAt (upB BB) 7 A1 gvC 0 1 1 o1 c1 w5 (by decide) (by decide) (by rw [← EA1.out]; exact gvC_no) (by rw [← EA1.out]; exact gvC_is) HF1
  have HS3 := sliceAt (upB BB) 7 A1 nil 1101 1 2 o1 c1 w5 (by decide) (by decide) (by rw [← EA1.out]; exact gvD_no) (by rw [← EA1.out]; exact gvD_is) HF1
  clear hBB HG HL1 HL2 HO1 B35 B3
  generalize v3.heap.size = p1 at *
  generalize upB BB = BB at *
  generalize hA2 : gvC = A2 at *
  have EA2 : Hid (gvC = A2) := hA2
  clear hA2
  have HK : Hid (∀ v, Below w5.heap.size w5 v → v.cell? ⟨p1, 0, none⟩ = some (.int .i64 A1.layout) ∧ v.cell? ⟨p1, 1, none⟩ = some (.int .i64 A1.offset) ∧ v.cell? ⟨p1, 2, none⟩ = some (.int .i64 A1.length) ∧ v.cell? ⟨p1, 3, none⟩ = some (.string A1.valid) ∧ v.cell? ⟨p1, 4, none⟩ = some (.string A1.ends) ∧ v.cell? ⟨p1, 5, none⟩ = some (.string A1.data) ∧ v.cell? ⟨p1, 6, none⟩ = some (.slice o1 A1.kids.length c1)) := fun v hv => by
    have Y := X5.out.later hv
    exact ⟨Y.c0, Y.c1, Y.c2, Y.c3, Y.c4, Y.c5, Y.c6⟩
  have KRa : Hid (w5.drew.cell? ⟨p1, 0, none⟩ = some (.int .i64 A1.layout) ∧ w5.drew.cell? ⟨p1, 1, none⟩ = some (.int .i64 A1.offset) ∧ w5.drew.cell? ⟨p1, 2, none⟩ = some (.int .i64 A1.length) ∧ w5.drew.cell? ⟨p1, 3, none⟩ = some (.string A1.valid) ∧ w5.drew.cell? ⟨p1, 4, none⟩ = some (.string A1.ends) ∧ w5.drew.cell? ⟨p1, 5, none⟩ = some (.string A1.data) ∧ w5.drew.cell? ⟨p1, 6, none⟩ = some (.slice o1 A1.kids.length c1)) := HK.out _ (drewN_below w5 1)
  unfold Arr.val at HS2 HS3
  go_cut [3, 4] from 9 (fun u t wx => ∃ (q : Nat) (o2 : Option Addr) (c2 : Nat), u = .pointer (some ⟨q, 0, none⟩) ∧ t = .int .i64 0 ∧ Bx wx q A2 o2 c2 ∧ HoldsO BB wx 8 (fun b => w5.heap.size ≤ b) (A2.cells o2 c2) A2 ∧ Below w5.heap.size w5 wx)
  case first =>
    refine wp_region_noPanic ?_
    refine wp_region_held_drew (S := fun W : World => W.cell? ⟨p1, 0, none⟩ = some (.int .i64 A1.layout) ∧ W.cell? ⟨p1, 1, none⟩ = some (.int .i64 A1.offset) ∧ W.cell? ⟨p1, 2, none⟩ = some (.int .i64 A1.length) ∧ W.cell? ⟨p1, 3, none⟩ = some (.string A1.valid) ∧ W.cell? ⟨p1, 4, none⟩ = some (.string A1.ends) ∧ W.cell? ⟨p1, 5, none⟩ = some (.string A1.data) ∧ W.cell? ⟨p1, 6, none⟩ = some (.slice o1 A1.kids.length c1)) (by kernel_rfl) KRa.out (fun h0 => ?_)
    have D0 : Hid (Below w5.heap.size w5 w5.drew) := drewN_below w5 1
    generalize w5.drew = v0 at *
    refine take_at (i := 1) (d := some 17) (v := ?v1a) rfl rfl (by kernel_rfl) (by kernel_rfl) (by kernel_rfl) (fun _ _ _ h => h) (Or.inl ⟨by rfl, ?y1a⟩) h0 ?r1a
    case y1a => (intro w' hSw; (try dsimp only at hSw); go_simp; try with_reducible rfl)
    try simp only [Act.put, List.setIfInBounds_toArray, List.set_cons_zero, List.set_cons_succ]
    refine wpAnyH_ready (rs := [0, 6]) (by kernel_rfl) (by simp) ?_
    refine AllReadyH.cons rfl (fun K hK => ?_) (AllReadyH.cons rfl (fun K hK => ?_) AllReadyH.nil)
    · go_simp
      go_at_call 39
      refine (intsS v0).mono ?_
      rintro e v1 ⟨g, rfl, hl, b0⟩
      have s0 := b0.size
      have D1 : Hid (Below w5.heap.size w5 v1) := bel2 D0.out b0
      refine hK.out _ _ (HK.out _ D1.out) (fun h1 => ?_)
      clear hK K h0
      try simp only [Act.put, List.setIfInBounds_toArray, List.set_cons_zero, List.set_cons_succ]
      refine wpAnyH_ready (rs := [2, 6]) (by kernel_rfl) (by simp) ?_
      refine AllReadyH.cons rfl (fun K hK => ?_) (AllReadyH.cons rfl (fun K hK => ?_) AllReadyH.nil)
      · go_simp
        go_at_call 15
        refine (HS2.out v1 g D1.out hl).mono ?_
        rintro e v2 ⟨o2, c2, rfl, hA, b1⟩
        have s1 := b1.size
        have D2 : Hid (Below w5.heap.size w5 v2) := bel2 D1.out b1
        refine hK.out _ _ (HK.out _ D2.out) (fun h2 => ?_)
        clear hK K h1
        try simp only [Act.put, List.setIfInBounds_toArray, List.set_cons_zero, List.set_cons_succ]
        refine take_at (i := 3) (d := some 15) (v := ?v3ay) rfl rfl (by kernel_rfl) (by kernel_rfl) (by kernel_rfl) (fun _ _ _ h => h) (Or.inl ⟨by rfl, ?y3ay⟩) h2 ?r3ay
        case y3ay => (intro w' hSw; (try dsimp only at hSw); go_simp; try with_reducible rfl)
        try simp only [Act.put, List.setIfInBounds_toArray, List.set_cons_zero, List.set_cons_succ]
        refine take_at (i := 4) (d := some 19) (v := ?v4ay) rfl rfl (by kernel_rfl) (by kernel_rfl) (by kernel_rfl) (fun _ _ _ h => h) (Or.inl ⟨by rfl, ?y4ay⟩) h2 ?r4ay
        case y4ay => (intro w' hSw; (try dsimp only at hSw); go_simp; try with_reducible rfl)
        try simp only [Act.put, List.setIfInBounds_toArray, List.set_cons_zero, List.set_cons_succ]
        refine take_at (i := 5) (d := some 20) (v := ?v5ay) rfl rfl (by kernel_rfl) (by kernel_rfl) (by kernel_rfl) (fun _ _ _ h => h) (Or.inl ⟨by rfl, ?y5ay⟩) h2 ?r5ay
        case y5ay => (intro w' hSw; (try dsimp only at hSw); go_simp; try with_reducible rfl)
        try simp only [Act.put, List.setIfInBounds_toArray, List.set_cons_zero, List.set_cons_succ]
        refine wpAnyH_ready (rs := [6]) (by kernel_rfl) (by simp) ?_
        refine AllReadyH.cons rfl (fun K hK => ?_) AllReadyH.nil
        go_simp
        obtain ⟨v3, e2, x8, b2, s2⟩ := box7 v2 nil none 0
        rw [show v2.alloc (.cells #[.int .i64 0, .int .i64 0, .int .i64 0, .string ⟨#[]⟩, .string ⟨#[]⟩, .string ⟨#[]⟩, .slice none 0 0] 30) = v3 from e2]
        have D3 : Hid (Below w5.heap.size w5 v3) := bel2 D2.out b2
        refine hK.out _ _ (HK.out _ D3.out) (fun h3 => ?_)
        clear hK K h2
        try simp only [Act.put, List.setIfInBounds_toArray, List.set_cons_zero, List.set_cons_succ]
        have F8 := x8.later (Below.refl _ _)
        have FA : HoldsO BB v3 8 (fun b => w5.heap.size ≤ b ∧ b ≠ v2.heap.size) (A2.cells o2 c2) A2 := hA.lt.stays (fun b hb => Below.block (show Below v2.heap.size v2 v3 from b2) b hb.2) (fun b hb => by have h1 := hb.1; have h2 := hb.2; have h3 := D1.out.size; constructor <;> omega)
        have HP : Hid (w5.heap.size ≤ v2.heap.size) := D2.out.size
        have XF : Hid (Bx v3 v2.heap.size nil none 0) := F8
        have FAH : Hid (HoldsO BB v3 8 (fun b => w5.heap.size ≤ b ∧ b ≠ v2.heap.size) (A2.cells o2 c2) A2) := FA
        clear x8 hA F8 FA hl
        clear b0 s0 b1 s1 b2 s2 e2
        generalize v2.heap.size = q at *
        have m0 := XF.out.c0
        have m1 := XF.out.c1
        have m2 := XF.out.c2
        have m3 := XF.out.c3
        have m4 := XF.out.c4
        have m5 := XF.out.c5
        have m6 := XF.out.c6
        have f0 := XF.out.fz 0
        have f1 := XF.out.fz 1
        have f2 := XF.out.fz 2
        have f3 := XF.out.fz 3
        have f4 := XF.out.fz 4
        have f5 := XF.out.fz 5
        have f6 := XF.out.fz 6
        unfold nil at m0 m1 m2 m3 m4 m5 m6
        refine wpAnyH_ready (rs := [7]) (by kernel_rfl) (by simp) ?_
        refine AllReadyH.cons rfl (fun K hK => ?_) AllReadyH.nil
        go_simp
        obtain ⟨v4, e4, x4, hO4, b4⟩ := meetS XF.out HP.out FAH.out D3.out
        rw [e4]
        have D4 : Hid (Below w5.heap.size w5 v4) := b4
        have X4 : Hid (Bx v4 q A2 o2 c2) := x4
        have HO4 : Hid (HoldsO BB v4 8 (fun b => w5.heap.size ≤ b) (A2.cells o2 c2) A2) := hO4
        clear e4 x4 hO4 b4
        refine hK.out _ _ (HK.out _ D4.out) (fun h4 => ?_)
        clear hK K
        try simp only [Act.put, List.setIfInBounds_toArray, List.set_cons_zero, List.set_cons_succ]
        clear m0 m1 m2 m3 m4 m5 m6 f0 f1 f2 f3 f4 f5 f6
        refine take_at (i := 8) (d := some 4) (v := ?v8az0) rfl rfl (by kernel_rfl) (by kernel_rfl) (by kernel_rfl) (fun _ _ _ h => h) (Or.inl ⟨by rfl, ?y8az0⟩) h4 ?r8az0
        case y8az0 => (intro w' hSw; (try dsimp only at hSw); go_simp; try with_reducible rfl)
        try simp only [Act.put, List.setIfInBounds_toArray, List.set_cons_zero, List.set_cons_succ]
        refine wpAnyH_done (by kernel_rfl) ?_ _
        refine NoPanic.normal ?_
        go_wp2_with fail
        go_meet
        case rel => exact ⟨q, o2, c2, rfl, rfl, X4.out, HO4.out, D4.out⟩
      · go_simp
        obtain ⟨v2, e1, x8, b1, s1⟩ := box7 v1 nil none 0
        rw [show v1.alloc (.cells #[.int .i64 0, .int .i64 0, .int .i64 0, .string ⟨#[]⟩, .string ⟨#[]⟩, .string ⟨#[]⟩, .slice none 0 0] 30) = v2 from e1]
        have D2 : Hid (Below w5.heap.size w5 v2) := bel2 D1.out b1
        refine hK.out _ _ (HK.out _ D2.out) (fun h2 => ?_)
        clear hK K h1
        try simp only [Act.put, List.setIfInBounds_toArray, List.set_cons_zero, List.set_cons_succ]
        refine wpAnyH_ready (rs := [2]) (by kernel_rfl) (by simp) ?_
        refine AllReadyH.cons rfl (fun K hK => ?_) AllReadyH.nil
        go_simp
        go_at_call 15
        refine (HS2.out v2 g D2.out (hl.later b1)).mono ?_
        rintro e v3 ⟨o2, c2, rfl, hA, b2⟩
        have s2 := b2.size
        have D3 : Hid (Below w5.heap.size w5 v3) := bel2 D2.out b2
        refine hK.out _ _ (HK.out _ D3.out) (fun h3 => ?_)
        clear hK K h2
        try simp only [Act.put, List.setIfInBounds_toArray, List.set_cons_zero, List.set_cons_succ]
        have F8 := x8.later b2
        have FA : HoldsO BB v3 8 (fun b => w5.heap.size ≤ b ∧ b ≠ v1.heap.size) (A2.cells o2 c2) A2 := hA.lt.stays (fun b hb => Below.block (show Below v3.heap.size v3 v3 from (Below.refl _ _)) b hb.2) (fun b hb => by have h1 := hb.1; have h2 := hb.2; have h3 := D2.out.size; constructor <;> omega)
        have HP : Hid (w5.heap.size ≤ v1.heap.size) := D1.out.size
        have XF : Hid (Bx v3 v1.heap.size nil none 0) := F8
        have FAH : Hid (HoldsO BB v3 8 (fun b => w5.heap.size ≤ b ∧ b ≠ v1.heap.size) (A2.cells o2 c2) A2) := FA
        clear x8 hA F8 FA hl
        clear b0 s0 b1 s1 b2 s2 e1
        generalize v1.heap.size = q at *
        refine take_at (i := 3) (d := some 15) (v := ?v3a1) rfl rfl (by kernel_rfl) (by kernel_rfl) (by kernel_rfl) (fun _ _ _ h => h) (Or.inl ⟨by rfl, ?y3a1⟩) h3 ?r3a1
        case y3a1 => (intro w' hSw; (try dsimp only at hSw); go_simp; try with_reducible rfl)
        try simp only [Act.put, List.setIfInBounds_toArray, List.set_cons_zero, List.set_cons_succ]
        refine take_at (i := 4) (d := some 19) (v := ?v4a1) rfl rfl (by kernel_rfl) (by kernel_rfl) (by kernel_rfl) (fun _ _ _ h => h) (Or.inl ⟨by rfl, ?y4a1⟩) h3 ?r4a1
        case y4a1 => (intro w' hSw; (try dsimp only at hSw); go_simp; try with_reducible rfl)
        try simp only [Act.put, List.setIfInBounds_toArray, List.set_cons_zero, List.set_cons_succ]
        refine take_at (i := 5) (d := some 20) (v := ?v5a1) rfl rfl (by kernel_rfl) (by kernel_rfl) (by kernel_rfl) (fun _ _ _ h => h) (Or.inl ⟨by rfl, ?y5a1⟩) h3 ?r5a1
        case y5a1 => (intro w' hSw; (try dsimp only at hSw); go_simp; try with_reducible rfl)
        try simp only [Act.put, List.setIfInBounds_toArray, List.set_cons_zero, List.set_cons_succ]
        have m0 := XF.out.c0
        have m1 := XF.out.c1
        have m2 := XF.out.c2
        have m3 := XF.out.c3
        have m4 := XF.out.c4
        have m5 := XF.out.c5
        have m6 := XF.out.c6
        have f0 := XF.out.fz 0
        have f1 := XF.out.fz 1
        have f2 := XF.out.fz 2
        have f3 := XF.out.fz 3
        have f4 := XF.out.fz 4
        have f5 := XF.out.fz 5
        have f6 := XF.out.fz 6
        unfold nil at m0 m1 m2 m3 m4 m5 m6
        refine wpAnyH_ready (rs := [7]) (by kernel_rfl) (by simp) ?_
        refine AllReadyH.cons rfl (fun K hK => ?_) AllReadyH.nil
        go_simp
        obtain ⟨v4, e4, x4, hO4, b4⟩ := meetS XF.out HP.out FAH.out D3.out
        rw [e4]
        have D4 : Hid (Below w5.heap.size w5 v4) := b4
        have X4 : Hid (Bx v4 q A2 o2 c2) := x4
        have HO4 : Hid (HoldsO BB v4 8 (fun b => w5.heap.size ≤ b) (A2.cells o2 c2) A2) := hO4
        clear e4 x4 hO4 b4
        refine hK.out _ _ (HK.out _ D4.out) (fun h4 => ?_)
        clear hK K
        try simp only [Act.put, List.setIfInBounds_toArray, List.set_cons_zero, List.set_cons_succ]
        clear m0 m1 m2 m3 m4 m5 m6 f0 f1 f2 f3 f4 f5 f6
        refine take_at (i := 8) (d := some 4) (v := ?v8az1) rfl rfl (by kernel_rfl) (by kernel_rfl) (by kernel_rfl) (fun _ _ _ h => h) (Or.inl ⟨by rfl, ?y8az1⟩) h4 ?r8az1
        case y8az1 => (intro w' hSw; (try dsimp only at hSw); go_simp; try with_reducible rfl)
        try simp only [Act.put, List.setIfInBounds_toArray, List.set_cons_zero, List.set_cons_succ]
        refine wpAnyH_done (by kernel_rfl) ?_ _
        refine NoPanic.normal ?_
        go_wp2_with fail
        go_meet
        case rel => exact ⟨q, o2, c2, rfl, rfl, X4.out, HO4.out, D4.out⟩
    · go_simp
      obtain ⟨v1, e0, x8, b0, s0⟩ := box7 v0 nil none 0
      rw [show v0.alloc (.cells #[.int .i64 0, .int .i64 0, .int .i64 0, .string ⟨#[]⟩, .string ⟨#[]⟩, .string ⟨#[]⟩, .slice none 0 0] 30) = v1 from e0]
      have D1 : Hid (Below w5.heap.size w5 v1) := bel2 D0.out b0
      refine hK.out _ _ (HK.out _ D1.out) (fun h1 => ?_)
      clear hK K h0
      try simp only [Act.put, List.setIfInBounds_toArray, List.set_cons_zero, List.set_cons_succ]
      refine wpAnyH_ready (rs := [0]) (by kernel_rfl) (by simp) ?_
      refine AllReadyH.cons rfl (fun K hK => ?_) AllReadyH.nil
      go_simp
      go_at_call 39
      refine (intsS v1).mono ?_
      rintro e v2 ⟨g, rfl, hl, b1⟩
      have s1 := b1.size
      have D2 : Hid (Below w5.heap.size w5 v2) := bel2 D1.out b1
      refine hK.out _ _ (HK.out _ D2.out) (fun h2 => ?_)
      clear hK K h1
      try simp only [Act.put, List.setIfInBounds_toArray, List.set_cons_zero, List.set_cons_succ]
      refine wpAnyH_ready (rs := [2]) (by kernel_rfl) (by simp) ?_
      refine AllReadyH.cons rfl (fun K hK => ?_) AllReadyH.nil
      go_simp
      go_at_call 15
      refine (HS2.out v2 g D2.out hl).mono ?_
      rintro e v3 ⟨o2, c2, rfl, hA, b2⟩
      have s2 := b2.size
      have D3 : Hid (Below w5.heap.size w5 v3) := bel2 D2.out b2
      refine hK.out _ _ (HK.out _ D3.out) (fun h3 => ?_)
      clear hK K h2
      try simp only [Act.put, List.setIfInBounds_toArray, List.set_cons_zero, List.set_cons_succ]
      have F8 := x8.later (bel2 b1 b2)
      have FA : HoldsO BB v3 8 (fun b => w5.heap.size ≤ b ∧ b ≠ v0.heap.size) (A2.cells o2 c2) A2 := hA.lt.stays (fun b hb => Below.block (show Below v3.heap.size v3 v3 from (Below.refl _ _)) b hb.2) (fun b hb => by have h1 := hb.1; have h2 := hb.2; have h3 := D2.out.size; constructor <;> omega)
      have HP : Hid (w5.heap.size ≤ v0.heap.size) := D0.out.size
      have XF : Hid (Bx v3 v0.heap.size nil none 0) := F8
      have FAH : Hid (HoldsO BB v3 8 (fun b => w5.heap.size ≤ b ∧ b ≠ v0.heap.size) (A2.cells o2 c2) A2) := FA
      clear x8 hA F8 FA hl
      clear b0 s0 b1 s1 b2 s2 e0
      generalize v0.heap.size = q at *
      refine take_at (i := 3) (d := some 15) (v := ?v3a2) rfl rfl (by kernel_rfl) (by kernel_rfl) (by kernel_rfl) (fun _ _ _ h => h) (Or.inl ⟨by rfl, ?y3a2⟩) h3 ?r3a2
      case y3a2 => (intro w' hSw; (try dsimp only at hSw); go_simp; try with_reducible rfl)
      try simp only [Act.put, List.setIfInBounds_toArray, List.set_cons_zero, List.set_cons_succ]
      refine take_at (i := 4) (d := some 19) (v := ?v4a2) rfl rfl (by kernel_rfl) (by kernel_rfl) (by kernel_rfl) (fun _ _ _ h => h) (Or.inl ⟨by rfl, ?y4a2⟩) h3 ?r4a2
      case y4a2 => (intro w' hSw; (try dsimp only at hSw); go_simp; try with_reducible rfl)
      try simp only [Act.put, List.setIfInBounds_toArray, List.set_cons_zero, List.set_cons_succ]
      refine take_at (i := 5) (d := some 20) (v := ?v5a2) rfl rfl (by kernel_rfl) (by kernel_rfl) (by kernel_rfl) (fun _ _ _ h => h) (Or.inl ⟨by rfl, ?y5a2⟩) h3 ?r5a2
      case y5a2 => (intro w' hSw; (try dsimp only at hSw); go_simp; try with_reducible rfl)
      try simp only [Act.put, List.setIfInBounds_toArray, List.set_cons_zero, List.set_cons_succ]
      have m0 := XF.out.c0
      have m1 := XF.out.c1
      have m2 := XF.out.c2
      have m3 := XF.out.c3
      have m4 := XF.out.c4
      have m5 := XF.out.c5
      have m6 := XF.out.c6
      have f0 := XF.out.fz 0
      have f1 := XF.out.fz 1
      have f2 := XF.out.fz 2
      have f3 := XF.out.fz 3
      have f4 := XF.out.fz 4
      have f5 := XF.out.fz 5
      have f6 := XF.out.fz 6
      unfold nil at m0 m1 m2 m3 m4 m5 m6
      refine wpAnyH_ready (rs := [7]) (by kernel_rfl) (by simp) ?_
      refine AllReadyH.cons rfl (fun K hK => ?_) AllReadyH.nil
      go_simp
      obtain ⟨v4, e4, x4, hO4, b4⟩ := meetS XF.out HP.out FAH.out D3.out
      rw [e4]
      have D4 : Hid (Below w5.heap.size w5 v4) := b4
      have X4 : Hid (Bx v4 q A2 o2 c2) := x4
      have HO4 : Hid (HoldsO BB v4 8 (fun b => w5.heap.size ≤ b) (A2.cells o2 c2) A2) := hO4
      clear e4 x4 hO4 b4
      refine hK.out _ _ (HK.out _ D4.out) (fun h4 => ?_)
      clear hK K
      try simp only [Act.put, List.setIfInBounds_toArray, List.set_cons_zero, List.set_cons_succ]
      clear m0 m1 m2 m3 m4 m5 m6 f0 f1 f2 f3 f4 f5 f6
      refine take_at (i := 8) (d := some 4) (v := ?v8az2) rfl rfl (by kernel_rfl) (by kernel_rfl) (by kernel_rfl) (fun _ _ _ h => h) (Or.inl ⟨by rfl, ?y8az2⟩) h4 ?r8az2
      case y8az2 => (intro w' hSw; (try dsimp only at hSw); go_simp; try with_reducible rfl)
      try simp only [Act.put, List.setIfInBounds_toArray, List.set_cons_zero, List.set_cons_succ]
      refine wpAnyH_done (by kernel_rfl) ?_ _
      refine NoPanic.normal ?_
      go_wp2_with fail
      go_meet
      case rel => exact ⟨q, o2, c2, rfl, rfl, X4.out, HO4.out, D4.out⟩
  case rest =>
    obtain ⟨q2, o2, c2, rfl, rfl, hx2, hO2, hb2⟩ := hcut
    have BC : Hid (Below w5.heap.size w5 wc) := hb2
    have X2 : Hid (Bx wc q2 A2 o2 c2) := hx2
    have HO2 : Hid (HoldsO BB wc 8 (fun b => w5.heap.size ≤ b) (A2.cells o2 c2) A2) := hO2
    have HK3 : Hid (∀ v, Below wc.heap.size wc v → v.cell? ⟨p1, 0, none⟩ = some (.int .i64 A1.layout) ∧ v.cell? ⟨p1, 1, none⟩ = some (.int .i64 A1.offset) ∧ v.cell? ⟨p1, 2, none⟩ = some (.int .i64 A1.length) ∧ v.cell? ⟨p1, 3, none⟩ = some (.string A1.valid) ∧ v.cell? ⟨p1, 4, none⟩ = some (.string A1.ends) ∧ v.cell? ⟨p1, 5, none⟩ = some (.string A1.data) ∧ v.cell? ⟨p1, 6, none⟩ = some (.slice o1 A1.kids.length c1)) := fun v hv => HK.out v (bel2 BC.out hv)
    have HS3c : Hid (∀ v (g : Nat), Below wc.heap.size wc v → Lies v ⟨g, 0, none⟩ awT → Calls Tryz.prog 15 #[.agg #[.slice (some ⟨g, 0, none⟩) 1 1], .int .i64 0, .agg #[.int .i64 A1.layout, .int .i64 A1.offset, .int .i64 A1.length, .string A1.valid, .string A1.ends, .string A1.data, .slice o1 A1.kids.length c1], .int .i64 1, .int .i64 2] v fun r w' => ∃ o' c', r = .returned (.tuple #[.agg #[.int .i64 nil.layout, .int .i64 nil.offset, .int .i64 nil.length, .string nil.valid, .string nil.ends, .string nil.data, .slice o' nil.kids.length c'], .int .i64 1101]) ∧ HoldsO BB w' 8 (fun b => v.heap.size ≤ b) (nil.cells o' c') nil ∧ Below v.heap.size v w') := fun v g hv hl => HS3.out v g (bel2 BC.out hv) hl
    generalize hN : nil = A3 at HS3c
    have KRc : Hid (wc.drew.cell? ⟨p1, 0, none⟩ = some (.int .i64 A1.layout) ∧ wc.drew.cell? ⟨p1, 1, none⟩ = some (.int .i64 A1.offset) ∧ wc.drew.cell? ⟨p1, 2, none⟩ = some (.int .i64 A1.length) ∧ wc.drew.cell? ⟨p1, 3, none⟩ = some (.string A1.valid) ∧ wc.drew.cell? ⟨p1, 4, none⟩ = some (.string A1.ends) ∧ wc.drew.cell? ⟨p1, 5, none⟩ = some (.string A1.data) ∧ wc.drew.cell? ⟨p1, 6, none⟩ = some (.slice o1 A1.kids.length c1)) := HK3.out _ (drewN_below wc 1)
    generalize wc = w7 at *
    clear hx2 hO2 hb2 KRa HS2 HS3 hN
    go_upto_region 3 with fail
    go_cut [5, 6] from 9 (fun u t wx => ∃ (q : Nat) (o2 : Option Addr) (c2 : Nat), u = .pointer (some ⟨q, 0, none⟩) ∧ t = .int .i64 1101 ∧ Bx wx q A3 o2 c2 ∧ HoldsO BB wx 8 (fun b => w7.heap.size ≤ b) (A3.cells o2 c2) A3 ∧ Below w7.heap.size w7 wx)
    case first =>
      refine wp_region_noPanic ?_
      refine wp_region_held_drew (S := fun W : World => W.cell? ⟨p1, 0, none⟩ = some (.int .i64 A1.layout) ∧ W.cell? ⟨p1, 1, none⟩ = some (.int .i64 A1.offset) ∧ W.cell? ⟨p1, 2, none⟩ = some (.int .i64 A1.length) ∧ W.cell? ⟨p1, 3, none⟩ = some (.string A1.valid) ∧ W.cell? ⟨p1, 4, none⟩ = some (.string A1.ends) ∧ W.cell? ⟨p1, 5, none⟩ = some (.string A1.data) ∧ W.cell? ⟨p1, 6, none⟩ = some (.slice o1 A1.kids.length c1)) (by kernel_rfl) KRc.out (fun h0 => ?_)
      have D0 : Hid (Below w7.heap.size w7 w7.drew) := drewN_below w7 1
      generalize w7.drew = v0 at *
      refine take_at (i := 1) (d := some 23) (v := ?v1c) rfl rfl (by kernel_rfl) (by kernel_rfl) (by kernel_rfl) (fun _ _ _ h => h) (Or.inl ⟨by rfl, ?y1c⟩) h0 ?r1c
      case y1c => (intro w' hSw; (try dsimp only at hSw); go_simp; try with_reducible rfl)
      try simp only [Act.put, List.setIfInBounds_toArray, List.set_cons_zero, List.set_cons_succ]
      refine wpAnyH_ready (rs := [0, 6]) (by kernel_rfl) (by simp) ?_
      refine AllReadyH.cons rfl (fun K hK => ?_) (AllReadyH.cons rfl (fun K hK => ?_) AllReadyH.nil)
      · go_simp
        go_at_call 39
        refine (intsS v0).mono ?_
        rintro e v1 ⟨g, rfl, hl, b0⟩
        have s0 := b0.size
        have D1 : Hid (Below w7.heap.size w7 v1) := bel2 D0.out b0
        refine hK.out _ _ (HK3.out _ D1.out) (fun h1 => ?_)
        clear hK K h0
        try simp only [Act.put, List.setIfInBounds_toArray, List.set_cons_zero, List.set_cons_succ]
        refine wpAnyH_ready (rs := [2, 6]) (by kernel_rfl) (by simp) ?_
        refine AllReadyH.cons rfl (fun K hK => ?_) (AllReadyH.cons rfl (fun K hK => ?_) AllReadyH.nil)
        · go_simp
          go_at_call 15
          refine (HS3c.out v1 g D1.out hl).mono ?_
          rintro e v2 ⟨o2, c2, rfl, hA, b1⟩
          have s1 := b1.size
          have D2 : Hid (Below w7.heap.size w7 v2) := bel2 D1.out b1
          refine hK.out _ _ (HK3.out _ D2.out) (fun h2 => ?_)
          clear hK K h1
          try simp only [Act.put, List.setIfInBounds_toArray, List.set_cons_zero, List.set_cons_succ]
          refine take_at (i := 3) (d := some 21) (v := ?v3cy) rfl rfl (by kernel_rfl) (by kernel_rfl) (by kernel_rfl) (fun _ _ _ h => h) (Or.inl ⟨by rfl, ?y3cy⟩) h2 ?r3cy
          case y3cy => (intro w' hSw; (try dsimp only at hSw); go_simp; try with_reducible rfl)
          try simp only [Act.put, List.setIfInBounds_toArray, List.set_cons_zero, List.set_cons_succ]
          refine take_at (i := 4) (d := some 25) (v := ?v4cy) rfl rfl (by kernel_rfl) (by kernel_rfl) (by kernel_rfl) (fun _ _ _ h => h) (Or.inl ⟨by rfl, ?y4cy⟩) h2 ?r4cy
          case y4cy => (intro w' hSw; (try dsimp only at hSw); go_simp; try with_reducible rfl)
          try simp only [Act.put, List.setIfInBounds_toArray, List.set_cons_zero, List.set_cons_succ]
          refine take_at (i := 5) (d := some 26) (v := ?v5cy) rfl rfl (by kernel_rfl) (by kernel_rfl) (by kernel_rfl) (fun _ _ _ h => h) (Or.inl ⟨by rfl, ?y5cy⟩) h2 ?r5cy
          case y5cy => (intro w' hSw; (try dsimp only at hSw); go_simp; try with_reducible rfl)
          try simp only [Act.put, List.setIfInBounds_toArray, List.set_cons_zero, List.set_cons_succ]
          refine wpAnyH_ready (rs := [6]) (by kernel_rfl) (by simp) ?_
          refine AllReadyH.cons rfl (fun K hK => ?_) AllReadyH.nil
          go_simp
          obtain ⟨v3, e2, x8, b2, s2⟩ := box7 v2 nil none 0
          rw [show v2.alloc (.cells #[.int .i64 0, .int .i64 0, .int .i64 0, .string ⟨#[]⟩, .string ⟨#[]⟩, .string ⟨#[]⟩, .slice none 0 0] 30) = v3 from e2]
          have D3 : Hid (Below w7.heap.size w7 v3) := bel2 D2.out b2
          refine hK.out _ _ (HK3.out _ D3.out) (fun h3 => ?_)
          clear hK K h2
          try simp only [Act.put, List.setIfInBounds_toArray, List.set_cons_zero, List.set_cons_succ]
          have F8 := x8.later (Below.refl _ _)
          have FA : HoldsO BB v3 8 (fun b => w7.heap.size ≤ b ∧ b ≠ v2.heap.size) (A3.cells o2 c2) A3 := hA.lt.stays (fun b hb => Below.block (show Below v2.heap.size v2 v3 from b2) b hb.2) (fun b hb => by have h1 := hb.1; have h2 := hb.2; have h3 := D1.out.size; constructor <;> omega)
          have HP : Hid (w7.heap.size ≤ v2.heap.size) := D2.out.size
          have XF : Hid (Bx v3 v2.heap.size nil none 0) := F8
          have FAH : Hid (HoldsO BB v3 8 (fun b => w7.heap.size ≤ b ∧ b ≠ v2.heap.size) (A3.cells o2 c2) A3) := FA
          clear x8 hA F8 FA hl
          clear b0 s0 b1 s1 b2 s2 e2
          generalize v2.heap.size = q at *
          have m0 := XF.out.c0
          have m1 := XF.out.c1
          have m2 := XF.out.c2
          have m3 := XF.out.c3
          have m4 := XF.out.c4
          have m5 := XF.out.c5
          have m6 := XF.out.c6
          have f0 := XF.out.fz 0
          have f1 := XF.out.fz 1
          have f2 := XF.out.fz 2
          have f3 := XF.out.fz 3
          have f4 := XF.out.fz 4
          have f5 := XF.out.fz 5
          have f6 := XF.out.fz 6
          unfold nil at m0 m1 m2 m3 m4 m5 m6
          refine wpAnyH_ready (rs := [7]) (by kernel_rfl) (by simp) ?_
          refine AllReadyH.cons rfl (fun K hK => ?_) AllReadyH.nil
          go_simp
          obtain ⟨v4, e4, x4, hO4, b4⟩ := meetS XF.out HP.out FAH.out D3.out
          rw [e4]
          have D4 : Hid (Below w7.heap.size w7 v4) := b4
          have X4 : Hid (Bx v4 q A3 o2 c2) := x4
          have HO4 : Hid (HoldsO BB v4 8 (fun b => w7.heap.size ≤ b) (A3.cells o2 c2) A3) := hO4
          clear e4 x4 hO4 b4
          refine hK.out _ _ (HK3.out _ D4.out) (fun h4 => ?_)
          clear hK K
          try simp only [Act.put, List.setIfInBounds_toArray, List.set_cons_zero, List.set_cons_succ]
          clear m0 m1 m2 m3 m4 m5 m6 f0 f1 f2 f3 f4 f5 f6
          refine take_at (i := 8) (d := some 6) (v := ?v8cz0) rfl rfl (by kernel_rfl) (by kernel_rfl) (by kernel_rfl) (fun _ _ _ h => h) (Or.inl ⟨by rfl, ?y8cz0⟩) h4 ?r8cz0
          case y8cz0 => (intro w' hSw; (try dsimp only at hSw); go_simp; try with_reducible rfl)
          try simp only [Act.put, List.setIfInBounds_toArray, List.set_cons_zero, List.set_cons_succ]
          refine wpAnyH_done (by kernel_rfl) ?_ _
          refine NoPanic.normal ?_
          go_wp2_with fail
          go_meet
          case rel => exact ⟨q, o2, c2, rfl, rfl, X4.out, HO4.out, D4.out⟩
        · go_simp
          obtain ⟨v2, e1, x8, b1, s1⟩ := box7 v1 nil none 0
          rw [show v1.alloc (.cells #[.int .i64 0, .int .i64 0, .int .i64 0, .string ⟨#[]⟩, .string ⟨#[]⟩, .string ⟨#[]⟩, .slice none 0 0] 30) = v2 from e1]
          have D2 : Hid (Below w7.heap.size w7 v2) := bel2 D1.out b1
          refine hK.out _ _ (HK3.out _ D2.out) (fun h2 => ?_)
          clear hK K h1
          try simp only [Act.put, List.setIfInBounds_toArray, List.set_cons_zero, List.set_cons_succ]
          refine wpAnyH_ready (rs := [2]) (by kernel_rfl) (by simp) ?_
          refine AllReadyH.cons rfl (fun K hK => ?_) AllReadyH.nil
          go_simp
          go_at_call 15
          refine (HS3c.out v2 g D2.out (hl.later b1)).mono ?_
          rintro e v3 ⟨o2, c2, rfl, hA, b2⟩
          have s2 := b2.size
          have D3 : Hid (Below w7.heap.size w7 v3) := bel2 D2.out b2
          refine hK.out _ _ (HK3.out _ D3.out) (fun h3 => ?_)
          clear hK K h2
          try simp only [Act.put, List.setIfInBounds_toArray, List.set_cons_zero, List.set_cons_succ]
          have F8 := x8.later b2
          have FA : HoldsO BB v3 8 (fun b => w7.heap.size ≤ b ∧ b ≠ v1.heap.size) (A3.cells o2 c2) A3 := hA.lt.stays (fun b hb => Below.block (show Below v3.heap.size v3 v3 from (Below.refl _ _)) b hb.2) (fun b hb => by have h1 := hb.1; have h2 := hb.2; have h3 := D2.out.size; constructor <;> omega)
          have HP : Hid (w7.heap.size ≤ v1.heap.size) := D1.out.size
          have XF : Hid (Bx v3 v1.heap.size nil none 0) := F8
          have FAH : Hid (HoldsO BB v3 8 (fun b => w7.heap.size ≤ b ∧ b ≠ v1.heap.size) (A3.cells o2 c2) A3) := FA
          clear x8 hA F8 FA hl
          clear b0 s0 b1 s1 b2 s2 e1
          generalize v1.heap.size = q at *
          refine take_at (i := 3) (d := some 21) (v := ?v3c1) rfl rfl (by kernel_rfl) (by kernel_rfl) (by kernel_rfl) (fun _ _ _ h => h) (Or.inl ⟨by rfl, ?y3c1⟩) h3 ?r3c1
          case y3c1 => (intro w' hSw; (try dsimp only at hSw); go_simp; try with_reducible rfl)
          try simp only [Act.put, List.setIfInBounds_toArray, List.set_cons_zero, List.set_cons_succ]
          refine take_at (i := 4) (d := some 25) (v := ?v4c1) rfl rfl (by kernel_rfl) (by kernel_rfl) (by kernel_rfl) (fun _ _ _ h => h) (Or.inl ⟨by rfl, ?y4c1⟩) h3 ?r4c1
          case y4c1 => (intro w' hSw; (try dsimp only at hSw); go_simp; try with_reducible rfl)
          try simp only [Act.put, List.setIfInBounds_toArray, List.set_cons_zero, List.set_cons_succ]
          refine take_at (i := 5) (d := some 26) (v := ?v5c1) rfl rfl (by kernel_rfl) (by kernel_rfl) (by kernel_rfl) (fun _ _ _ h => h) (Or.inl ⟨by rfl, ?y5c1⟩) h3 ?r5c1
          case y5c1 => (intro w' hSw; (try dsimp only at hSw); go_simp; try with_reducible rfl)
          try simp only [Act.put, List.setIfInBounds_toArray, List.set_cons_zero, List.set_cons_succ]
          have m0 := XF.out.c0
          have m1 := XF.out.c1
          have m2 := XF.out.c2
          have m3 := XF.out.c3
          have m4 := XF.out.c4
          have m5 := XF.out.c5
          have m6 := XF.out.c6
          have f0 := XF.out.fz 0
          have f1 := XF.out.fz 1
          have f2 := XF.out.fz 2
          have f3 := XF.out.fz 3
          have f4 := XF.out.fz 4
          have f5 := XF.out.fz 5
          have f6 := XF.out.fz 6
          unfold nil at m0 m1 m2 m3 m4 m5 m6
          refine wpAnyH_ready (rs := [7]) (by kernel_rfl) (by simp) ?_
          refine AllReadyH.cons rfl (fun K hK => ?_) AllReadyH.nil
          go_simp
          obtain ⟨v4, e4, x4, hO4, b4⟩ := meetS XF.out HP.out FAH.out D3.out
          rw [e4]
          have D4 : Hid (Below w7.heap.size w7 v4) := b4
          have X4 : Hid (Bx v4 q A3 o2 c2) := x4
          have HO4 : Hid (HoldsO BB v4 8 (fun b => w7.heap.size ≤ b) (A3.cells o2 c2) A3) := hO4
          clear e4 x4 hO4 b4
          refine hK.out _ _ (HK3.out _ D4.out) (fun h4 => ?_)
          clear hK K
          try simp only [Act.put, List.setIfInBounds_toArray, List.set_cons_zero, List.set_cons_succ]
          clear m0 m1 m2 m3 m4 m5 m6 f0 f1 f2 f3 f4 f5 f6
          refine take_at (i := 8) (d := some 6) (v := ?v8cz1) rfl rfl (by kernel_rfl) (by kernel_rfl) (by kernel_rfl) (fun _ _ _ h => h) (Or.inl ⟨by rfl, ?y8cz1⟩) h4 ?r8cz1
          case y8cz1 => (intro w' hSw; (try dsimp only at hSw); go_simp; try with_reducible rfl)
          try simp only [Act.put, List.setIfInBounds_toArray, List.set_cons_zero, List.set_cons_succ]
          refine wpAnyH_done (by kernel_rfl) ?_ _
          refine NoPanic.normal ?_
          go_wp2_with fail
          go_meet
          case rel => exact ⟨q, o2, c2, rfl, rfl, X4.out, HO4.out, D4.out⟩
      · go_simp
        obtain ⟨v1, e0, x8, b0, s0⟩ := box7 v0 nil none 0
        rw [show v0.alloc (.cells #[.int .i64 0, .int .i64 0, .int .i64 0, .string ⟨#[]⟩, .string ⟨#[]⟩, .string ⟨#[]⟩, .slice none 0 0] 30) = v1 from e0]
        have D1 : Hid (Below w7.heap.size w7 v1) := bel2 D0.out b0
        refine hK.out _ _ (HK3.out _ D1.out) (fun h1 => ?_)
        clear hK K h0
        try simp only [Act.put, List.setIfInBounds_toArray, List.set_cons_zero, List.set_cons_succ]
        refine wpAnyH_ready (rs := [0]) (by kernel_rfl) (by simp) ?_
        refine AllReadyH.cons rfl (fun K hK => ?_) AllReadyH.nil
        go_simp
        go_at_call 39
        refine (intsS v1).mono ?_
        rintro e v2 ⟨g, rfl, hl, b1⟩
        have s1 := b1.size
        have D2 : Hid (Below w7.heap.size w7 v2) := bel2 D1.out b1
        refine hK.out _ _ (HK3.out _ D2.out) (fun h2 => ?_)
        clear hK K h1
        try simp only [Act.put, List.setIfInBounds_toArray, List.set_cons_zero, List.set_cons_succ]
        refine wpAnyH_ready (rs := [2]) (by kernel_rfl) (by simp) ?_
        refine AllReadyH.cons rfl (fun K hK => ?_) AllReadyH.nil
        go_simp
        go_at_call 15
        refine (HS3c.out v2 g D2.out hl).mono ?_
        rintro e v3 ⟨o2, c2, rfl, hA, b2⟩
        have s2 := b2.size
        have D3 : Hid (Below w7.heap.size w7 v3) := bel2 D2.out b2
        refine hK.out _ _ (HK3.out _ D3.out) (fun h3 => ?_)
        clear hK K h2
        try simp only [Act.put, List.setIfInBounds_toArray, List.set_cons_zero, List.set_cons_succ]
        have F8 := x8.later (bel2 b1 b2)
        have FA : HoldsO BB v3 8 (fun b => w7.heap.size ≤ b ∧ b ≠ v0.heap.size) (A3.cells o2 c2) A3 := hA.lt.stays (fun b hb => Below.block (show Below v3.heap.size v3 v3 from (Below.refl _ _)) b hb.2) (fun b hb => by have h1 := hb.1; have h2 := hb.2; have h3 := D2.out.size; constructor <;> omega)
        have HP : Hid (w7.heap.size ≤ v0.heap.size) := D0.out.size
        have XF : Hid (Bx v3 v0.heap.size nil none 0) := F8
        have FAH : Hid (HoldsO BB v3 8 (fun b => w7.heap.size ≤ b ∧ b ≠ v0.heap.size) (A3.cells o2 c2) A3) := FA
        clear x8 hA F8 FA hl
        clear b0 s0 b1 s1 b2 s2 e0
        generalize v0.heap.size = q at *
        refine take_at (i := 3) (d := some 21) (v := ?v3c2) rfl rfl (by kernel_rfl) (by kernel_rfl) (by kernel_rfl) (fun _ _ _ h => h) (Or.inl ⟨by rfl, ?y3c2⟩) h3 ?r3c2
        case y3c2 => (intro w' hSw; (try dsimp only at hSw); go_simp; try with_reducible rfl)
        try simp only [Act.put, List.setIfInBounds_toArray, List.set_cons_zero, List.set_cons_succ]
        refine take_at (i := 4) (d := some 25) (v := ?v4c2) rfl rfl (by kernel_rfl) (by kernel_rfl) (by kernel_rfl) (fun _ _ _ h => h) (Or.inl ⟨by rfl, ?y4c2⟩) h3 ?r4c2
        case y4c2 => (intro w' hSw; (try dsimp only at hSw); go_simp; try with_reducible rfl)
        try simp only [Act.put, List.setIfInBounds_toArray, List.set_cons_zero, List.set_cons_succ]
        refine take_at (i := 5) (d := some 26) (v := ?v5c2) rfl rfl (by kernel_rfl) (by kernel_rfl) (by kernel_rfl) (fun _ _ _ h => h) (Or.inl ⟨by rfl, ?y5c2⟩) h3 ?r5c2
        case y5c2 => (intro w' hSw; (try dsimp only at hSw); go_simp; try with_reducible rfl)
        try simp only [Act.put, List.setIfInBounds_toArray, List.set_cons_zero, List.set_cons_succ]
        have m0 := XF.out.c0
        have m1 := XF.out.c1
        have m2 := XF.out.c2
        have m3 := XF.out.c3
        have m4 := XF.out.c4
        have m5 := XF.out.c5
        have m6 := XF.out.c6
        have f0 := XF.out.fz 0
        have f1 := XF.out.fz 1
        have f2 := XF.out.fz 2
        have f3 := XF.out.fz 3
        have f4 := XF.out.fz 4
        have f5 := XF.out.fz 5
        have f6 := XF.out.fz 6
        unfold nil at m0 m1 m2 m3 m4 m5 m6
        refine wpAnyH_ready (rs := [7]) (by kernel_rfl) (by simp) ?_
        refine AllReadyH.cons rfl (fun K hK => ?_) AllReadyH.nil
        go_simp
        obtain ⟨v4, e4, x4, hO4, b4⟩ := meetS XF.out HP.out FAH.out D3.out
        rw [e4]
        have D4 : Hid (Below w7.heap.size w7 v4) := b4
        have X4 : Hid (Bx v4 q A3 o2 c2) := x4
        have HO4 : Hid (HoldsO BB v4 8 (fun b => w7.heap.size ≤ b) (A3.cells o2 c2) A3) := hO4
        clear e4 x4 hO4 b4
        refine hK.out _ _ (HK3.out _ D4.out) (fun h4 => ?_)
        clear hK K
        try simp only [Act.put, List.setIfInBounds_toArray, List.set_cons_zero, List.set_cons_succ]
        clear m0 m1 m2 m3 m4 m5 m6 f0 f1 f2 f3 f4 f5 f6
        refine take_at (i := 8) (d := some 6) (v := ?v8cz2) rfl rfl (by kernel_rfl) (by kernel_rfl) (by kernel_rfl) (fun _ _ _ h => h) (Or.inl ⟨by rfl, ?y8cz2⟩) h4 ?r8cz2
        case y8cz2 => (intro w' hSw; (try dsimp only at hSw); go_simp; try with_reducible rfl)
        try simp only [Act.put, List.setIfInBounds_toArray, List.set_cons_zero, List.set_cons_succ]
        refine wpAnyH_done (by kernel_rfl) ?_ _
        refine NoPanic.normal ?_
        go_wp2_with fail
        go_meet
        case rel => exact ⟨q, o2, c2, rfl, rfl, X4.out, HO4.out, D4.out⟩
    case rest =>
      obtain ⟨q3, o3, c3, rfl, rfl, hx3, hO3, hb3⟩ := hcut
      have BC3 : Hid (Below w7.heap.size w7 wc) := hb3
      generalize wc = w8 at *
      clear hx3 hO3 hb3 HS3c KRc
      have HS4 := sliceAt 4096 0 gvL nil 1100 0 1 none 0 w8 (by decide) (by decide) gvE_no gvE_is (aw_holds gvL w8 rfl gvL_ok)
      unfold Arr.val at HS4
      generalize hN : nil = A4 at HS4
      clear hN
      unfold gvL at HS4
      simp only [List.length_nil] at HS4
      go_wp2_with fail
      refine (intsS w8).mono ?_
      rintro e w9 ⟨g9, rfl, hl9, b9⟩
      have HL9 : Hid (Lies w9 ⟨g9, 0, none⟩ awT) := hl9
      have B9 : Hid (Below w8.heap.size w8 w9) := b9
      clear hl9 b9
      go_wp2_with fail
      refine (HS4.out w9 g9 B9.out HL9.out).mono ?_
      rintro e w10 ⟨o4, c4, rfl, _, b10⟩
      have B10 : Hid (Below w8.heap.size w8 w10) := bel2 B9.out b10
      obtain ⟨w11, e11', x11, b11, z11⟩ := box7 w10 nil none 0
      have e11 : w10.alloc (.cells #[.int .i64 0, .int .i64 0, .int .i64 0, .string ⟨#[]⟩, .string ⟨#[]⟩, .string ⟨#[]⟩, .slice none 0 0] 30) = w11 := e11'
      have m0 := x11.c0
      have m1 := x11.c1
      have m2 := x11.c2
      have m3 := x11.c3
      have m4 := x11.c4
      have m5 := x11.c5
      have m6 := x11.c6
      have f0 := x11.fz 0
      have f1 := x11.fz 1
      have f2 := x11.fz 2
      have f3 := x11.fz 3
      have f4 := x11.fz 4
      have f5 := x11.fz 5
      have f6 := x11.fz 6
      obtain ⟨w12, e12, x12, h12, b12⟩ := set7 x11 A4 o4 c4
      have B12 : Hid (Below w8.heap.size w8 w12) := bel2 B10.out (b11.trans (b12 _ (Nat.le_refl _)))
      unfold nil at m0 m1 m2 m3 m4 m5 m6
      clear b10 e11' x11 b11 z11 x12 h12 b12 HS4
      go_upto_region 5 with fail
      try rw [e12]
      clear e11 e12 m0 m1 m2 m3 m4 m5 m6 f0 f1 f2 f3 f4 f5 f6
      have B712 : Hid (Below w7.heap.size w7 w12) := bel2 BC3.out B12.out
      have B512 : Hid (Below w5.heap.size w5 w12) := bel2 BC.out B712.out
      have BW12 : Hid (Below w.heap.size w w12) := bel2 B5.out B512.out
      have XA : Hid (Bx w12 p1 A1 o1 c1) := X5.out.later B512.out
      have XB : Hid (Bx w12 q2 A2 o2 c2) := X2.out.later B712.out
      have HFB : Hid (HoldsF (upB BB) 96 w12 8 (A2.cells o2 c2) A2) := HO2.out.holds.later B712.out
      have HFA : Hid (HoldsF _ 96 w12 8 (A1.cells o1 c1) A1) := HF1.out.later B512.out
      have hvA : valsA awT 0 (7 + 1) A1 = gvV := by rw [← EA1.out]; exact gvV_is
      have hvB : valsA awT 0 (7 + 1) A2 = gvW := by rw [← EA2.out]; exact gvW_is
      have hoff : A1.offset = 1 := by rw [← EA1.out]; exact gvB_off
      have HVA : Hid (∀ v, Below w12.heap.size w12 v → Calls Tryz.prog 41 #[A1.val o1 c1] v fun r w' => ∃ ov cv, r = .returned (.slice ov 2 cv) ∧ Texts.IsTx w' ov gvV ∧ Below v.heap.size v w') := fun v hv => by
        have := valsS _ 7 A1 o1 c1 v (HFA.out.later hv) (by rw [← EA1.out]; exact gvV_no)
        rw [hvA] at this
        exact this
      have HVB : Hid (∀ v, Below w12.heap.size w12 v → Calls Tryz.prog 41 #[A2.val o2 c2] v fun r w' => ∃ ov cv, r = .returned (.slice ov 1 cv) ∧ Texts.IsTx w' ov gvW ∧ Below v.heap.size v w') := fun v hv => by
        have := valsS _ 7 A2 o2 c2 v (HFB.out.later hv) (by rw [← EA2.out]; exact gvW_no)
        rw [hvB] at this
        exact this
      have HOFF : Hid (A1.offset = 1) := hoff
      clear hvA hvB hoff
      unfold Arr.val at HVA HVB
      have d0 := XA.out.c0
      have d1 := XA.out.c1
      have d2 := XA.out.c2
      have d3 := XA.out.c3
      have d4 := XA.out.c4
      have d5 := XA.out.c5
      have d6 := XA.out.c6
      go_wp2_with fail
      refine (HVA.out w12 (Below.refl _ _)).mono ?_
      rintro e w13 ⟨ov, cv, rfl, htx, b13⟩
      obtain ⟨w14, e14', ht14, b14⟩ := tx_lit w13 gvV (by decide)
      have e14 : w13.alloc (.cells #[.string ⟨#[110]⟩, .string ⟨#[105, 55, 59]⟩] 9) = w14 := e14'
      have B14 : Hid (Below w12.heap.size w12 w14) := bel2 b13 b14
      have HST : Hid (Calls Tryz.prog 21 #[.slice ov 2 cv, .slice (some ⟨w13.heap.size, 0, none⟩) 2 2] w14 fun r w' => r = .returned (.bool true) ∧ Below w14.heap.size w14 w') := sameTexts ov (some ⟨w13.heap.size, 0, none⟩) cv 2 gvV (by decide) w14 (htx.later b14) ht14
      clear htx b13 e14' ht14 b14 d0 d1 d2 d3 d4 d5 d6
      go_wp2_with fail
      refine HST.out.mono ?_
      rintro e w15 ⟨rfl, b15⟩
      have B15 : Hid (Below w12.heap.size w12 w15) := bel2 B14.out b15
      have k1 := (XA.out.later B15.out).c1
      rw [HOFF.out] at k1
      clear b15 e14
      have YB : Hid (Bx w15 q2 A2 o2 c2) := XB.out.later B15.out
      have d0 := YB.out.c0
      have d1 := YB.out.c1
      have d2 := YB.out.c2
      have d3 := YB.out.c3
      have d4 := YB.out.c4
      have d5 := YB.out.c5
      have d6 := YB.out.c6
      go_wp2_with fail
      refine (Tree.num _ _).mono ?_
      rintro e wx ⟨rfl, hv⟩
      subst wx
      go_wp2_with fail
      refine (HVB.out w15 B15.out).mono ?_
      rintro e w16 ⟨ov', cv', rfl, htx, b16⟩
      obtain ⟨w17, e17', ht17, b17⟩ := tx_lit w16 gvW (by decide)
      have e17 : w16.alloc (.cells #[.string ⟨#[105, 55, 59]⟩] 9) = w17 := e17'
      have B17 : Hid (Below w12.heap.size w12 w17) := bel2 B15.out (bel2 b16 b17)
      have HST2 : Hid (Calls Tryz.prog 21 #[.slice ov' 1 cv', .slice (some ⟨w16.heap.size, 0, none⟩) 1 1] w17 fun r w' => r = .returned (.bool true) ∧ Below w17.heap.size w17 w') := sameTexts ov' (some ⟨w16.heap.size, 0, none⟩) cv' 1 gvW (by decide) w17 (htx.later b17) ht17
      clear htx b16 e17' ht17 b17 d0 d1 d2 d3 d4 d5 d6 k1
      go_wp2_with fail
      refine HST2.out.mono ?_
      rintro e w18 ⟨rfl, b18⟩
      have B18 : Hid (Below w12.heap.size w12 w18) := bel2 B17.out b18
      clear b18 e17
      go_wp2_with fail
      refine (Tree.num _ _).mono ?_
      rintro e wx ⟨rfl, hv⟩
      subst wx
      go_wp2_with fail
      refine (Tree.num _ _).mono ?_
      rintro e wx ⟨rfl, hv⟩
      subst wx
      go_wp2_with fail
      refine (Tree.num _ _).mono ?_
      rintro e wx ⟨rfl, hv⟩
      subst wx
      go_wp2
      go_ret
      exact ⟨rfl, bel2 BW12.out B18.out⟩
end Go.Proofs.YthbjeedmhgnnaaaGreat.Arr
