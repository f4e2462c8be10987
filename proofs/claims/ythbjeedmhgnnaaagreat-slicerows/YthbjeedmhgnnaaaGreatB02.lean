/-
  Several texts in one: Rows of ints that are written; what the document's own TypeMay computes: contracts. · What the document's own functions over types compute: contracts. · What the laws' own helpers compute: Num, SameInts, SpoilInts, SameNodes, CopyType: contracts. · What the laws' own helpers compute: SameType, CopyType: contracts. · What the laws over types are told of the type that came in; bounds of what is answered. · A region that draws its order, in a class of worlds: those in which all that was there still stands.
-/
import Derived.Test.YthbjeedmhgnnaaaGreatRows
import Derived.Test.YthbjeedmhgnnaaaGreatB01
import Derived.WalkKit
import Derived.ProofKit
import Derived.OpenShut
import Derived.Below
import Derived.RegionTactic
import Derived.ChangeAlike
import Derived.OwnWalk
import Derived.Deep.QuietTactic
import Derived.BigQuiet
import Derived.WalkSmall
import Derived.Laws.OwnMore
import Derived.Laws.AppendOwnNone
namespace Go.Proofs.YthbjeedmhgnnaaaGreat.Tree
open Go.ChangeShapes Go.WideShapes Go.ChangeAt Go.RowKit

/-- So many ints lie at the head of block g, and may be written. -/
structure Row (w : World) (g L : Nat) (f : Nat → Nat) : Prop where
  cell : ∀ i, i < L → w.cell? ⟨g, i, none⟩ = some (.int .i64 ((f i : Nat) : Int))
  free : ∀ i, i < L → w.frozen? ⟨g, i, none⟩ = false
theorem Row.set {w : World} {g L : Nat} {f : Nat → Nat} (h : Row w g L f) (j : Nat) (hj : j < L) (v : Nat) : Row (w.setCell ⟨g, j, none⟩ (.int .i64 ((v : Nat) : Int))) g L (fun i => if i = j then v else f i) := by
  constructor
  · intro i hi
    by_cases e : i = j
    · subst e
      rw [World.cell?_setCell_same _ _ _ (h.cell i hi), if_pos rfl]
    · rw [World.cell?_setCell_other _ _ _ _ (by intro c; exact e (by injection c with _ c2; exact c2.symm)), h.cell i hi, if_neg e]
  · intro i hi
    rw [World.frozen?_setCell]
    exact h.free i hi
theorem Row.later {w w' : World} {g L : Nat} {f : Nat → Nat} (h : Row w g L f) (b : Below w.heap.size w w') : Row w' g L f :=
  ⟨fun i hi => cell_later b (h.cell i hi), fun i hi => by rw [b.frozen (p := ⟨g, i, none⟩) (World.block_lt_of_cell? _ _ (h.cell i hi))]; exact h.free i hi⟩
theorem Row.as {w : World} {g L : Nat} {f f' : Nat → Nat} (h : Row w g L f) (e : ∀ i, i < L → f i = f' i) : Row w g L f' :=
  ⟨fun i hi => by rw [h.cell i hi, e i hi], h.free⟩
def zeros (n : Nat) : Array Value := madeCells (Value.cells (.int .i64 0)) n
theorem zeros_at (n i : Nat) (h : i < n) : (zeros n)[i]? = some (.int .i64 0) := by
  unfold zeros
  rw [← Array.getElem?_toList, show (Value.cells (.int .i64 0)) = #[.int .i64 0] from rfl, toList_madeCells_one, List.getElem?_replicate, if_pos h]
theorem Row.zeros (w : World) (n : Nat) : Row (w.alloc (.cells (zeros n) 3)) w.heap.size n (fun _ => 0) := by
  constructor
  · intro i hi
    rw [World.cell?_alloc_mark, zeros_at n i hi]
    rfl
  · intro i _
    rw [World.frozen?_alloc_mark]
    simp
theorem make_row (n : Nat) (h : n ≤ 8) (w : World) :
    ∃ w1, (Instr.makeSlice 60 (.int .i64 (n : Int)) (.int .i64 (n : Int))).run Tryz.prog w = .ok (.slice (some ⟨w.heap.size, 0, none⟩) n n) w1 ∧ Row w1 w.heap.size n (fun _ => 0) ∧ Below w.heap.size w w1 := by
  obtain ⟨i, hi, hz0, hz1, hz2⟩ := info_parts info3
  have := run_make (P := Tryz.prog) w 60 3 i (.int .i64 0) Tryz.underlying60 hi hz0 .i64 .i64 n n (by omega) (Int.le_refl _) (by rw [hz2]; omega) (by omega)
  rw [hz1, Nat.mul_one, Int.toNat_natCast] at this
  exact ⟨_, this, Row.zeros w n, (Below.refl _ _).alloc (Nat.le_refl _) _⟩

theorem refUp (x a b : Int) (w : World) :
    Calls Tryz.prog 87 #[.int .i64 x, .int .i64 a, .int .i64 b] w fun r w' => r = .returned (.bool (decide (a ≤ x ∧ x ≤ b))) ∧ w' = w := by
  by_cases h : a ≤ x
  · go_enter Tryz.func87, Tryz.ntmps87
    go_wp2
    go_ret
    exact ⟨ret_bool (by simp [h]), rfl⟩
  · go_enter Tryz.func87, Tryz.ntmps87
    go_wp2
    go_ret
    exact ⟨ret_bool (by simp; omega), rfl⟩
theorem refLeaf (k : Int) (w : World) :
    Calls Tryz.prog 45 #[.int .i64 k] w fun r w' => r = .returned (.bool (isLeaf k)) ∧ w' = w := by
  unfold isLeaf
  by_cases h : k = 3
  · go_enter Tryz.func45, Tryz.ntmps45
    go_wp2
    go_ret
    exact ⟨ret_bool (by simp [h]), rfl⟩
  · go_enter Tryz.func45, Tryz.ntmps45
    go_wp2
    go_ret
    exact ⟨ret_bool (by rw [Bool.eq_iff_iff]; simp [h]), rfl⟩
theorem may_head {l : List Nd} (h : headOk l = false) : may l = false := by unfold may; rw [h]; rfl
theorem may_at {l : List Nd} {k : Nat} (hk : k < l.length) (h : okAt l k = false) : may l = false := by
  unfold may
  rw [okTo_no l _ k hk h, Bool.and_false]
theorem may_all {l : List Nd} (h0 : headOk l = true) (h : ∀ i, i < l.length → okAt l i = true) : may l = true := by
  unfold may
  rw [h0, okTo_all l _ h]
  rfl
/-- How deep the nodes ahead of k lie; of the others nothing is told yet. -/
def deepF (l : List Nd) (k i : Nat) : Nat := if i < k then depth l i else 0
theorem deepF_zero (l : List Nd) (i : Nat) : deepF l 0 i = 0 := rfl

theorem okAt_eq (l : List Nd) (k : Nat) {kd pr : Int} {nl : Bool} (h : nd l k = ⟨kd, pr, nl⟩) : okAt l k = (decide (0 ≤ kd ∧ kd ≤ 4) && (!(isLeaf kd && decide (0 < (kids l k).length) || decide (kd = 3) && decide ((kids l k).length ≠ 1) || decide (kd = 4) && decide ((kids l k).length < 1))) && (decide (k = 0) || decide (0 ≤ pr ∧ pr < k) && decide (depth l pr.toNat < 4))) := by
  unfold okAt
  rw [h]
theorem okAt_kind {l : List Nd} {k : Nat} {kd pr : Int} {nl : Bool} (h : nd l k = ⟨kd, pr, nl⟩) (h' : ¬ (0 ≤ kd ∧ kd ≤ 4)) : okAt l k = false := by
  rw [okAt_eq l k h, decide_eq_false h']; rfl
theorem okAt_many {l : List Nd} {k : Nat} {kd pr : Int} {nl : Bool} (h : nd l k = ⟨kd, pr, nl⟩) (h' : isLeaf kd = true ∧ 0 < (kids l k).length ∨ kd = 3 ∧ (kids l k).length ≠ 1 ∨ kd = 4 ∧ (kids l k).length < 1) : okAt l k = false := by
  rw [okAt_eq l k h]
  rcases h' with ⟨h1, h2⟩ | ⟨h1, h2⟩ | ⟨h1, h2⟩
  · rw [h1, decide_eq_true h2]; simp
  · rw [decide_eq_true h1, decide_eq_true h2]; simp
  · rw [decide_eq_true h1, decide_eq_true h2]; simp
theorem okAt_par {l : List Nd} {k : Nat} {kd pr : Int} {nl : Bool} (h : nd l k = ⟨kd, pr, nl⟩) (h0 : k ≠ 0) (h' : ¬ (0 ≤ pr ∧ pr < k) ∨ 4 ≤ depth l pr.toNat) : okAt l k = false := by
  rw [okAt_eq l k h, decide_eq_false h0]
  rcases h' with h' | h'
  · rw [decide_eq_false h']; simp
  · rw [decide_eq_false (p := depth l pr.toNat < 4) (by omega)]; simp
theorem okAt_yes {l : List Nd} {k : Nat} {kd pr : Int} {nl : Bool} (h : nd l k = ⟨kd, pr, nl⟩) (h1 : 0 ≤ kd ∧ kd ≤ 4) (h2 : ¬ (isLeaf kd = true ∧ 0 < (kids l k).length ∨ kd = 3 ∧ (kids l k).length ≠ 1 ∨ kd = 4 ∧ (kids l k).length < 1)) (h3 : k = 0 ∨ (0 ≤ pr ∧ pr < k) ∧ depth l pr.toNat < 4) : okAt l k = true := by
  rw [okAt_eq l k h]
  simp only [Bool.and_eq_true, Bool.or_eq_true, Bool.not_eq_true', Bool.or_eq_false_iff, Bool.and_eq_false_iff, decide_eq_true_eq, decide_eq_false_iff_not]
  refine ⟨⟨h1, ⟨?_, ?_⟩, ?_⟩, h3⟩
  · cases hl : isLeaf kd
    · exact .inl rfl
    · exact .inr (fun c => h2 (.inl ⟨hl, c⟩))
  · by_cases c : kd = 3
    · exact .inr (fun d => h2 (.inr (.inl ⟨c, d⟩)))
    · exact .inl c
  · by_cases c : kd = 4
    · exact .inr (fun d => h2 (.inr (.inr ⟨c, d⟩)))
    · exact .inl c
theorem six (kd : Int) (m : Nat) : (isLeaf kd = true ∧ kd ≠ 3 ∧ kd ≠ 4 ∧ 0 < m ∨ isLeaf kd = false ∧ kd = 3 ∧ m ≠ 1 ∨ isLeaf kd = false ∧ kd = 4 ∧ m < 1) ∨ (isLeaf kd = true ∧ kd ≠ 3 ∧ kd ≠ 4 ∧ m = 0 ∨ isLeaf kd = false ∧ kd = 3 ∧ m = 1 ∨ isLeaf kd = false ∧ kd = 4 ∧ 1 ≤ m) := by
  unfold isLeaf
  simp only [decide_eq_true_eq, decide_eq_false_iff_not]
  omega
theorem six_bad {kd : Int} {m : Nat} (h6 : isLeaf kd = true ∧ kd ≠ 3 ∧ kd ≠ 4 ∧ 0 < m ∨ isLeaf kd = false ∧ kd = 3 ∧ m ≠ 1 ∨ isLeaf kd = false ∧ kd = 4 ∧ m < 1) : isLeaf kd = true ∧ 0 < m ∨ kd = 3 ∧ m ≠ 1 ∨ kd = 4 ∧ m < 1 := by
  rcases h6 with ⟨a, b, c, d⟩ | ⟨a, b, c⟩ | ⟨a, b, c⟩
  · exact .inl ⟨a, d⟩
  · exact .inr (.inl ⟨b, c⟩)
  · exact .inr (.inr ⟨b, c⟩)
theorem six_good {kd : Int} {m : Nat} (h6 : isLeaf kd = true ∧ kd ≠ 3 ∧ kd ≠ 4 ∧ m = 0 ∨ isLeaf kd = false ∧ kd = 3 ∧ m = 1 ∨ isLeaf kd = false ∧ kd = 4 ∧ 1 ≤ m) : ¬ (isLeaf kd = true ∧ 0 < m ∨ kd = 3 ∧ m ≠ 1 ∨ kd = 4 ∧ m < 1) := by
  rintro (⟨a', b'⟩ | ⟨a', b'⟩ | ⟨a', b'⟩) <;> rcases h6 with ⟨a, b, c, d⟩ | ⟨a, b, c⟩ | ⟨a, b, c⟩
  all_goals first | omega | (rw [a'] at a; cases a)
theorem deepF_step (l : List Nd) (k i : Nat) : deepF l (k + 1) i = if i = k then depth l k else deepF l k i := by
  unfold deepF
  by_cases e : i = k
  · subst e; rw [if_pos (by omega), if_pos rfl]
  · rw [if_neg e]
    by_cases c : i < k
    · rw [if_pos (by omega), if_pos c]
    · rw [if_neg (by omega), if_neg c]
theorem deep_one (l : List Nd) (i : Nat) (_ : i < l.length) : deepF l 0 i = deepF l 1 i := by
  rw [deepF_step l 0 i]
  by_cases e : i = 0
  · rw [if_pos e, depth_first]; rfl
  · rw [if_neg e]
theorem depth_at {l : List Nd} {k q : Nat} (h0 : k ≠ 0) (hp : (nd l k).par = q) (hq : q < k) : depth l k = depth l q + 1 := by
  unfold depth
  rw [row_eq, depthF, if_neg h0, hp, Int.toNat_natCast, tab_at _ _ _ hq]

set_option maxRecDepth 20000 in
set_option maxHeartbeats 4000000 in
theorem refMay (a : Option Addr) (cap : Nat) (l : List Nd) (w : World) (h : IsT w a l) :
    Calls Tryz.prog 48 #[.agg #[.slice a l.length cap]] w fun r w' => r = .returned (.bool (may l)) ∧ Below w.heap.size w w' := by
  have hlen := h.1
  unfold maxLen at hlen
  have hb : Below w.heap.size w (w.alloc (Obj.cells #[.slice a l.length cap] 27)) := (Below.refl _ _).alloc (Nat.le_refl _) _
  by_cases h1 : 1 ≤ l.length
  · by_cases h8 : l.length ≤ 8
    · obtain ⟨x, rfl, hl⟩ := h.some h1
      have hp0 := (hl.later hb).par' 0 h1
      rw [Nat.zero_mul, show x.add 0 = x from rfl] at hp0
      by_cases hf : (nd l 0).par = -1
      · have HH : Hid (headOk l = true) := by unfold Hid headOk; rw [decide_eq_true ⟨h1, h8⟩, decide_eq_true hf]; rfl
        have HF : Hid ((nd l 0).par = -1) := hf
        rw [hf] at hp0
        clear hf
        obtain ⟨w1, hmk, hrow, hbm⟩ := make_row l.length h8 (w.alloc (Obj.cells #[.slice (some x) l.length cap] 27))
        have hc1 : (w.alloc (Obj.cells #[.slice (some x) l.length cap] 27)).cell? ⟨w.heap.size, 0, none⟩ = some (.slice (some x) l.length cap) := by simp
        have hz : w.heap.size < (w.alloc (Obj.cells #[.slice (some x) l.length cap] 27)).heap.size := by simp
        go_enter Tryz.func48, Tryz.ntmps48
        go_wp2_with fail
        have hsz : (w.alloc (Obj.cells #[.slice (some x) l.length cap] 27)).heap.size = w.heap.size + 1 := by simp
        rw [hsz] at hrow
        have hl1 := hl.later hb
        generalize w.alloc (Obj.cells #[.slice (some x) l.length cap] 27) = wb at *
        have HSZ : Hid (wb.heap.size = w.heap.size + 1) := hsz
        clear hsz hmk hp0 hl h hz
        go_loopw [4] (fun t wr => ∃ k : Nat, k ≤ l.length ∧ t = .int .i64 (k : Int) ∧ (∀ j, j < k → okAt l j = true) ∧ Row wr (w.heap.size + 1) l.length (deepF l k) ∧ Below wb.heap.size wb wr) (fun t _ => l.length - (intOf t).toNat)
        case atStart => exact ⟨0, Nat.zero_le _, rfl, fun j hj => by omega, hrow.as (fun i _ => (deepF_zero l i).symm), hbm⟩
        case round =>
          obtain ⟨k, hk, rfl, hall, hrw, hbl⟩ := hrel
          have HA : Hid (∀ j, j < k → okAt l j = true) := hall
          have HRW : Hid (Row wr (w.heap.size + 1) l.length (deepF l k)) := hrw
          have hc2 := cell_later hbl hc1
          have hl2 := hl1.later hbl
          clear hall hrw hrow
          by_cases hlt : k < l.length
          · have hp := hl2.par' k (by omega)
            have hq := hl2.kind' k (by omega)
            have hr := hl2.null' k (by omega)
            have HL : Hid (Lies wb x l) := hl1
            clear hl2 hl1
            generalize hn : nd l k = n at *
            obtain ⟨kd, pr, nl⟩ := n
            have HN : Hid (nd l k = ⟨kd, pr, nl⟩) := hn
            clear hn
            simp only at hp hq hr
            have hb4 : Below wr.heap.size wr (wr.alloc (Obj.cells #[.int .i64 kd, .int .i64 pr, .bool nl] 24)) := (Below.refl _ _).alloc (Nat.le_refl _) _
            have hm0 : (wr.alloc (Obj.cells #[.int .i64 kd, .int .i64 pr, .bool nl] 24)).cell? ⟨wr.heap.size, 0, none⟩ = some (.int .i64 kd) := by simp
            have hm1 : (wr.alloc (Obj.cells #[.int .i64 kd, .int .i64 pr, .bool nl] 24)).cell? ⟨wr.heap.size, 1, none⟩ = some (.int .i64 pr) := by simp
            by_cases hkd : 0 ≤ kd ∧ kd ≤ 4
            · have HD : Hid (decide (0 ≤ kd ∧ kd ≤ 4) = true) := decide_eq_true hkd
              have HKD : Hid (0 ≤ kd ∧ kd ≤ 4) := hkd
              clear hkd
              go_wp2_with fail
              refine (refUp _ _ _ _).mono ?_
              rintro e w' ⟨rfl, rfl⟩
              rw [HD.out]
              generalize wr.alloc (Obj.cells #[.int .i64 kd, .int .i64 pr, .bool nl] 24) = w4 at *
              have hc4 := cell_later hb4 hc2
              have hrw4 := HRW.out.later hb4
              have hbl4 : Below wb.heap.size wb w4 := hbl.trans (hb4.mono hbl.size)
              have HRW4 : Hid (Row w4 (w.heap.size + 1) l.length (deepF l k)) := hrw4
              clear hrw4 HRW hp hq hr hb4 hbl hc2
              go_wp2_with fail
              refine (refKids x cap l h1 h8 k _ (HL.out.later hbl4)).mono ?_
              rintro e w5 ⟨o, c, rfl, hown, hb5⟩
              have hc5 := cell_later hb5 hc4
              have hm05 := cell_later hb5 hm0
              have hm15 := cell_later hb5 hm1
              have HRW5 : Hid (Row w5 (w.heap.size + 1) l.length (deepF l k)) := HRW4.out.later hb5
              have hbl5 : Below wb.heap.size wb w5 := hbl4.trans (hb5.mono hbl4.size)
              clear hown hb5 hc4 hm0 hm1 HRW4 hbl4
              have H6 : Hid _ := six kd (kids l k).length
              have HM : Hid _ := @okAt_many l k kd pr nl HN.out
              have HY : Hid _ := @okAt_yes l k kd pr nl HN.out HKD.out
              have HMF : Hid (okAt l k = false → may l = false) := may_at hlt
              generalize (kids l k).length = m at *
              go_wp2_with fail
              refine (refLeaf _ _).mono ?_
              rintro e w' ⟨rfl, rfl⟩
              rcases H6.out with h6 | h6
              · have HF : Hid (may l = false) := HMF.out (HM.out (six_bad h6))
                clear HM HY HMF H6
                rcases h6 with ⟨a, b, c, d⟩ | ⟨a, b, c⟩ | ⟨a, b, c⟩
                all_goals
                  rw [a]
                  clear a
                  go_wp2
                  go_ret
                  exact ⟨ret_bool HF.out.symm, bel hb hbl5⟩
              · have HG : Hid (¬ (isLeaf kd = true ∧ 0 < m ∨ kd = 3 ∧ m ≠ 1 ∨ kd = 4 ∧ m < 1)) := six_good h6
                clear HM H6
                by_cases hk0 : k = 0
                · have HOK : Hid (okAt l k = true) := HY.out HG.out (.inl hk0)
                  have hz0 : (k : Int) = 0 := by omega
                  have HZ0 : Hid ((k : Int) = 0) := hz0
                  clear HY HG HMF hz0
                  rcases h6 with ⟨a, b, c, d⟩ | ⟨a, b, c⟩ | ⟨a, b, c⟩
                  all_goals
                    rw [a]
                    clear a
                    go_wp2
                    go_roundw
                    case rel =>
                      refine ⟨1, h1, rfl, fun j hj => ?_, ?_, hbl5⟩
                      · obtain rfl : j = k := by omega
                        exact HOK.out
                      · have := HRW5.out
                        rw [hk0] at this
                        exact this.as (deep_one l)
                    case measure => simp [intOf]; omega
                · have hk1 : ¬ ((k : Int) = 0) := by omega
                  by_cases hpr : 0 ≤ pr ∧ pr < k
                  · have HU : Hid (decide (0 ≤ pr ∧ pr ≤ (k : Int) - 1) = true) := decide_eq_true ⟨hpr.1, by omega⟩
                    obtain ⟨q, rfl⟩ := Int.eq_ofNat_of_zero_le hpr.1
                    have hqk : q < k := by omega
                    have hdq := HRW5.out.cell q (by omega)
                    rw [show deepF l k q = depth l q from if_pos hqk] at hdq
                    have HDK : Hid (depth l k = depth l q + 1) := depth_at hk0 (by rw [HN.out]) hqk
                    have HPA : Hid _ := @okAt_par l k kd (q : Int) nl HN.out hk0
                    by_cases hd4 : 4 ≤ depth l q
                    · have HF : Hid (may l = false) := HMF.out (HPA.out (.inr (by rw [Int.toNat_natCast]; exact hd4)))
                      clear HPA HDK HY HG HMF hpr
                      generalize depth l q = dq at *
                      rcases h6 with ⟨a, b, c, d⟩ | ⟨a, b, c⟩ | ⟨a, b, c⟩
                      all_goals
                        rw [a]
                        clear a
                        go_wp2_with fail
                        refine (refUp _ _ _ _).mono ?_
                        rintro e w' ⟨rfl, rfl⟩
                        rw [HU.out]
                        go_wp2
                        go_ret
                        exact ⟨ret_bool HF.out.symm, bel hb hbl5⟩
                    · have HOK : Hid (okAt l k = true) := HY.out HG.out (.inr ⟨⟨by omega, by omega⟩, by rw [Int.toNat_natCast]; omega⟩)
                      have hck := HRW5.out.cell k hlt
                      have hfk := HRW5.out.free k hlt
                      clear HPA HY HG HMF hpr
                      generalize depth l q = dq at *
                      generalize deepF l k k = dk at *
                      rcases h6 with ⟨a, b, c, d⟩ | ⟨a, b, c⟩ | ⟨a, b, c⟩
                      all_goals
                        rw [a]
                        clear a
                        go_wp2_with fail
                        refine (refUp _ _ _ _).mono ?_
                        rintro e w' ⟨rfl, rfl⟩
                        rw [HU.out]
                        go_wp2
                        go_roundw
                        case rel =>
                          refine ⟨k + 1, by omega, by go_num, fun j hj => ?_, (HRW5.out.set k hlt (dq + 1)).as (fun i _ => ?_), hbl5.setCell (by show wb.heap.size ≤ w.heap.size + 1; rw [HSZ.out]; exact Nat.le_refl _) _⟩
                          · by_cases e : j = k
                            · rw [e]; exact HOK.out
                            · exact HA.out j (by omega)
                          · rw [deepF_step l k i, HDK.out]
                        case measure => simp [intOf]; omega
                  · have HU : Hid (decide (0 ≤ pr ∧ pr ≤ (k : Int) - 1) = false) := decide_eq_false (fun h => hpr ⟨h.1, by omega⟩)
                    have HF : Hid (may l = false) := HMF.out (okAt_par HN.out hk0 (.inl hpr))
                    clear HY HG HMF hpr
                    rcases h6 with ⟨a, b, c, d⟩ | ⟨a, b, c⟩ | ⟨a, b, c⟩
                    all_goals
                      rw [a]
                      clear a
                      go_wp2_with fail
                      refine (refUp _ _ _ _).mono ?_
                      rintro e w' ⟨rfl, rfl⟩
                      rw [HU.out]
                      go_wp2
                      go_ret
                      exact ⟨ret_bool HF.out.symm, bel hb hbl5⟩
            · have HF : Hid (may l = false) := may_at hlt (okAt_kind HN.out hkd)
              have HD : Hid (decide (0 ≤ kd ∧ kd ≤ 4) = false) := decide_eq_false hkd
              clear hkd
              go_wp2_with fail
              refine (refUp _ _ _ _).mono ?_
              rintro e w' ⟨rfl, rfl⟩
              rw [HD.out]
              go_wp2
              go_ret
              exact ⟨ret_bool HF.out.symm, bel hb (hbl.trans (hb4.mono hbl.size))⟩
          · obtain rfl : k = l.length := by omega
            have HF : Hid (may l = true) := may_all HH.out HA.out
            go_wp2
            go_ret
            exact ⟨ret_bool HF.out.symm, bel hb hbl⟩
      · have HH : headOk l = false := by unfold headOk; rw [decide_eq_false hf, Bool.and_false]
        rw [may_head HH]
        clear HH
        generalize nd l 0 = n at *
        have hne : (n.par != -1) = true := by simpa using hf
        go_enter Tryz.func48, Tryz.ntmps48
        go_wp2
        go_ret
        exact ⟨rfl, hb⟩
    · have HH : headOk l = false := by unfold headOk; rw [decide_eq_false (fun h => h8 h.2), Bool.false_and]
      rw [may_head HH]
      clear HH
      go_enter Tryz.func48, Tryz.ntmps48
      go_wp2
      go_ret
      exact ⟨rfl, hb⟩
  · have HH : headOk l = false := by unfold headOk; rw [decide_eq_false (fun h => h1 h.1), Bool.false_and]
    rw [may_head HH]
    clear HH
    go_enter Tryz.func48, Tryz.ntmps48
    go_wp2
    go_ret
    exact ⟨rfl, hb⟩
end Go.Proofs.YthbjeedmhgnnaaaGreat.Tree
namespace Go.Proofs.YthbjeedmhgnnaaaGreat.Tree
open Go.ChangeShapes Go.WideShapes Go.ChangeAt Go.RowKit

set_option maxRecDepth 20000 in
set_option maxHeartbeats 800000 in
theorem nodeMay (a : Option Addr) (cap : Nat) (l : List Nd) (i : Int) (w : World) (h : IsT w a l) :
    Calls Tryz.prog 23 #[.agg #[.slice a l.length cap], .int .i64 i] w fun r w' => r = .returned (.bool (hasB l i)) ∧ Below w.heap.size w w' := by
  have hlen := h.1
  unfold maxLen at hlen
  have hb : Below w.heap.size w (w.alloc (Obj.cells #[.slice a l.length cap] 27)) := (Below.refl _ _).alloc (Nat.le_refl _) _
  have hc : (w.alloc (Obj.cells #[.slice a l.length cap] 27)).cell? ⟨w.heap.size, 0, none⟩ = some (.slice a l.length cap) := by simp
  cases hm : may l
  · have HB : hasB l i = false := by unfold hasB; rw [hm, Bool.and_false]
    rw [HB]
    have HM : Hid (may l = false) := hm
    clear HB hm
    go_enter Tryz.func23, Tryz.ntmps23
    go_wp2_with fail
    refine (refMay a cap l _ (h.later hb)).mono ?_
    rintro e w' ⟨rfl, hb'⟩
    rw [HM.out]
    go_wp2
    go_ret
    exact ⟨rfl, bel hb hb'⟩
  · have HB : hasB l i = decide (0 ≤ i ∧ i < l.length) := by unfold hasB; rw [hm, Bool.and_true]
    rw [HB]
    have HM : Hid (may l = true) := hm
    clear HB hm
    by_cases h0 : 0 ≤ i
    · go_enter Tryz.func23, Tryz.ntmps23
      go_wp2_with fail
      refine (refMay a cap l _ (h.later hb)).mono ?_
      rintro e w' ⟨rfl, hb'⟩
      rw [HM.out]
      have hc2 := cell_later hb' hc
      go_wp2
      go_ret
      exact ⟨ret_bool (by simp [h0]), bel hb hb'⟩
    · rw [decide_eq_false (fun h => h0 h.1)]
      go_enter Tryz.func23, Tryz.ntmps23
      go_wp2_with fail
      refine (refMay a cap l _ (h.later hb)).mono ?_
      rintro e w' ⟨rfl, hb'⟩
      rw [HM.out]
      have hc2 := cell_later hb' hc
      go_wp2
      go_ret
      exact ⟨rfl, bel hb hb'⟩
set_option maxRecDepth 20000 in
set_option maxHeartbeats 800000 in
theorem kidsR (a : Option Addr) (cap : Nat) (l : List Nd) (i : Int) (w : World) (h : IsT w a l) :
    Calls Tryz.prog 50 #[.agg #[.slice a l.length cap], .int .i64 i] w fun r w' => ∃ o c, r = .returned (.tuple #[.slice o (kidsA l i).length c, .int .i64 (errA (hasB l i))]) ∧ w'.ownsRow w.heap.size 3 1 (.slice o (kidsA l i).length c) (kidsA l i).length (ints (kidsA l i)) ∧ Below w.heap.size w w' := by
  unfold kidsA errA
  have hb : Below w.heap.size w (w.alloc (Obj.cells #[.slice a l.length cap] 27)) := (Below.refl _ _).alloc (Nat.le_refl _) _
  have hc : (w.alloc (Obj.cells #[.slice a l.length cap] 27)).cell? ⟨w.heap.size, 0, none⟩ = some (.slice a l.length cap) := by simp
  cases hh : hasB l i
  · rw [if_neg (by simp), if_neg (by simp)]
    have HH : Hid (hasB l i = false) := hh
    clear hh
    go_enter Tryz.func50, Tryz.ntmps50
    go_wp2_with fail
    refine (nodeMay a cap l i _ (h.later hb)).mono ?_
    rintro e w' ⟨rfl, hb'⟩
    rw [HH.out]
    go_wp2
    go_ret2
    exact ⟨none, 0, rfl, World.ownsRow_nil _ _ _ _, bel hb hb'⟩
  · rw [if_pos rfl, if_pos rfl]
    obtain ⟨k, rfl, hk, hm⟩ := has_of hh
    have HH : Hid (hasB l k = true) := hh
    have HM : Hid (May l) := hm
    clear hh hm
    obtain ⟨x, rfl, hl⟩ := h.some (by omega)
    go_enter Tryz.func50, Tryz.ntmps50
    go_wp2_with fail
    refine (nodeMay _ cap l k _ (h.later hb)).mono ?_
    rintro e w' ⟨rfl, hb'⟩
    rw [HH.out]
    have hc2 := cell_later hb' hc
    go_wp2_with fail
    refine (refKids x cap l HM.out.one HM.out.most k _ (hl.later (bel hb hb'))).mono ?_
    rintro e w3 ⟨o, c, rfl, hown, hb3⟩
    go_wp2
    go_ret2
    exact ⟨o, c, rfl, own_mono hown (bel hb hb').size, bel (bel hb hb') hb3⟩
/-- What has been counted on the way from a up, when z is asked next. -/
def LevInv (l : List Nd) (a r d : Nat) (z : Int) : Prop :=
  (z = -1 ∧ r = rep l a ∧ d = dfn l a) ∨ ∃ k : Nat, k ≤ a ∧ z = k ∧ r + rep l k = rep l a ∧ d + dfn l k = dfn l a
theorem LevInv.start (l : List Nd) (a : Nat) : LevInv l a 0 0 a := .inr ⟨a, Nat.le_refl _, rfl, by omega, by omega⟩
theorem LevInv.more {l : List Nd} {a k r d : Nat} (hu : Up l a) (h : LevInv l a r d k) : k ≤ a ∧ LevInv l a (r + rep1 (nd l k)) (d + def1 (nd l k)) (nd l k).par ∧ -1 ≤ (nd l k).par ∧ (nd l k).par < k ∧ r ≤ rep l a ∧ d ≤ dfn l a := by
  rcases h with h | ⟨k', h1, h2, h4, h5⟩
  · omega
  obtain rfl : k = k' := by omega
  refine ⟨h1, ?_, ?_⟩
  · by_cases e : k = 0
    · subst e
      rw [rep_first] at h4
      rw [dfn_first] at h5
      exact .inl ⟨hu.first, h4, h5⟩
    · have hp := hu.par k (by omega) h1
      rw [hu.rep_up (by omega) h1] at h4
      rw [hu.dfn_up (by omega) h1] at h5
      exact .inr ⟨(nd l k).par.toNat, by omega, by omega, by omega, by omega⟩
  · by_cases e : k = 0
    · subst e; rw [hu.first]; omega
    · have hp := hu.par k (by omega) h1
      omega
theorem LevInv.done {l : List Nd} {a r d : Nat} {z : Int} (h : LevInv l a r d z) (hz : z < 0) : r = rep l a ∧ d = dfn l a := by
  rcases h with h | ⟨k', h1, h2, h3, h4⟩
  · exact h.2
  · omega
end Go.Proofs.YthbjeedmhgnnaaaGreat.Tree
namespace Go.Proofs.YthbjeedmhgnnaaaGreat.Tree
open Go.ChangeShapes Go.WideShapes Go.ChangeAt Go.RowKit

theorem num (e : Int) (w : World) : Calls Tryz.prog 13 #[.int .i64 e] w fun r w' => r = .returned (.int .i64 e) ∧ w' = w := by
  go_enter Tryz.func13, Tryz.ntmps13
  go_wp2
  go_ret
  exact ⟨rfl, rfl⟩
/-- Ints that can be read and written. -/
def IsI (w : World) (b : Nat) (o : Option Addr) (p : List Nat) : Prop := p = [] ∨ ∃ g, o = some ⟨g, 0, none⟩ ∧ b ≤ g ∧ Row w g p.length (fun i => p.getD i 0)
theorem own_ints {w : World} {b c : Nat} {o : Option Addr} {p : List Nat} (h : w.ownsRow b 3 1 (.slice o p.length c) p.length (ints p)) : IsI w b o p := by
  rcases h.2 with ⟨_, h1⟩ | ⟨g, cap, cur, h0, hg, _⟩
  · exact .inl (List.eq_nil_of_length_eq_zero h1)
  · injection h0 with h2 h3 h4
    subst h2 h4
    refine .inr ⟨g, rfl, hg, fun i hi => ?_, fun i _ => h.frozenAt i⟩
    rw [h.cellAt i (by omega)]
    simp [ints, hi]
theorem IsI.later {w w' : World} {b : Nat} {o : Option Addr} {p : List Nat} (h : IsI w b o p) (hb : Below w.heap.size w w') : IsI w' b o p :=
  h.imp id fun ⟨g, e, hg, hr⟩ => ⟨g, e, hg, hr.later hb⟩
structure RowZ (w : World) (g L : Nat) (f : Nat → Int) : Prop where
  cell : ∀ i, i < L → w.cell? ⟨g, i, none⟩ = some (.int .i64 (f i))
  free : ∀ i, i < L → w.frozen? ⟨g, i, none⟩ = false
theorem RowZ.set {w : World} {g L : Nat} {f : Nat → Int} (h : RowZ w g L f) (j : Nat) (hj : j < L) (v : Int) : RowZ (w.setCell ⟨g, j, none⟩ (.int .i64 v)) g L (fun i => if i = j then v else f i) := by
  constructor
  · intro i hi
    by_cases e : i = j
    · subst e
      rw [World.cell?_setCell_same _ _ _ (h.cell i hi), if_pos rfl]
    · rw [World.cell?_setCell_other _ _ _ _ (by intro c; exact e (by injection c with _ c2; exact c2.symm)), h.cell i hi, if_neg e]
  · intro i hi
    rw [World.frozen?_setCell]
    exact h.free i hi
theorem RowZ.as {w : World} {g L : Nat} {f f' : Nat → Int} (h : RowZ w g L f) (e : ∀ i, i < L → f i = f' i) : RowZ w g L f' :=
  ⟨fun i hi => by rw [h.cell i hi, e i hi], h.free⟩
end Go.Proofs.YthbjeedmhgnnaaaGreat.Tree
namespace Go.Proofs.YthbjeedmhgnnaaaGreat.Tree
open Go.ChangeShapes Go.WideShapes Go.ChangeAt Go.RowKit

end Go.Proofs.YthbjeedmhgnnaaaGreat.Tree
namespace Go.Proofs.YthbjeedmhgnnaaaGreat.Tree
open Go.ChangeShapes Go.WideShapes Go.ChangeAt Go.RowKit

theorem getD_take (z : List Nd) (n i : Nat) (h : i < n) : (z.take n).getD i ⟨0, 0, false⟩ = z.getD i ⟨0, 0, false⟩ := by
  rw [List.getD_eq_getElem?_getD, List.getD_eq_getElem?_getD, List.getElem?_take, if_pos h]
theorem isT_of {w : World} {a : Option Addr} {len cap : Nat} {z : List Nd} (h : IsNodes w a len cap z) : ∃ l : List Nd, len = l.length ∧ IsT w a l ∧ l.length ≤ cap ∧ (a = none ∧ l = [] ∧ cap = 0 ∨ ∃ x, a = some x ∧ Lies w x l) := by
  rcases h with ⟨rfl, rfl, rfl, rfl⟩ | ⟨x, rfl, hlc, hm, hz, hl, _⟩
  · exact ⟨[], rfl, ⟨Nat.zero_le _, .inl rfl⟩, Nat.le_refl _, .inl ⟨rfl, rfl, rfl⟩⟩
  · have hlen : (z.take len).length = len := by rw [List.length_take]; omega
    have hl' : Lies w x (z.take len) := by
      refine ⟨fun i hi => ?_, fun i hi => ?_, fun i hi => ?_⟩
      · rw [getD_take _ _ _ (by omega)]; exact hl.kind i (by omega)
      · rw [getD_take _ _ _ (by omega)]; exact hl.par i (by omega)
      · rw [getD_take _ _ _ (by omega)]; exact hl.null i (by omega)
    exact ⟨z.take len, hlen.symm, ⟨by omega, .inr ⟨x, rfl, hl'⟩⟩, by omega, .inr ⟨x, rfl, hl'⟩⟩
end Go.Proofs.YthbjeedmhgnnaaaGreat.Tree
namespace Go.Proofs.YthbjeedmhgnnaaaGreat.Tree
open Go.ChangeShapes Go.WideShapes Go.ChangeAt Go.RowKit

/-- A world in which what w1 has still stands. -/
structure BW (w1 : World) where
  w : World
  ok : Below w1.heap.size w1 w
theorem BW.some (w1 : World) : Nonempty (BW w1) := ⟨⟨w1, Below.refl _ _⟩⟩
theorem region_in {P : Program} {C : World → Prop} {id : Nat} {Q : Exit → Act → World → Prop} {a : Act} {w : World} {l : List Oper} (hm : P.follows .mixedOrders = true) (hB : Region.lexB .any l.toArray = true) (hC : C w.drew)
    (h : wpQuiet P l.toArray C (fun a' => ∀ w', C w' → Q .normal a' w') l a) : (Code.region id l.toArray true).wp P Q a w :=
  wp_region_quiet (C := C) hm hB hC (by simpa using h)
end Go.Proofs.YthbjeedmhgnnaaaGreat.Tree
