/-
  Several texts in one: What the functions of package types compute: contracts. · Rows of ints that are written; what the document's own TypeMay computes: contracts. · What types.Levels computes: its contract. · What the laws' own helpers compute: Num, SameInts, SpoilInts, SameNodes, CopyType: contracts. · What the laws' own helpers compute: SameType, CopyType: contracts. · What the laws over types are told of the type that came in; bounds of what is answered. · Arrays as plain trees; an array that came in (a struct of three numbers, three texts and a list of such), opened at every one within it. Over whatever program. · Whole numbers and their digits, as plain lists of bytes: which digits are a number's, and that number.
-/
import Derived.Test.YtcpfhfdgfcilaaaGreatDoorProg
import GoSem.Claim
import GoSem.ClaimJoined
import GoSem.ClaimMapViews
import Derived.JoinedTies
import Derived.KernelRfl
import Derived.RowKit
import Derived.Test.YtcpfhfdgfcilaaaGreatDoorB01
import Derived.WalkKit
import Derived.ProofKit
import Derived.OpenShut
import Derived.Below
import Derived.RegionTactic
import Derived.ChangeAlike
import Derived.OwnWalk
import Derived.Deep.QuietTactic
import Derived.BigQuiet
import Derived.WalkSmall
import Derived.Laws.OwnMore
import Derived.Laws.AppendOwnNone
import Derived.ChangeOld
import Derived.ChangeArms
import Derived.SizedLaws
import Derived.Deep.Slices
namespace Go.Proofs.YtcpfhfdgfcilaaaGreatDoor.Tree
open Go.ChangeShapes Go.WideShapes Go.ChangeAt Go.RowKit

/-- Is a a node of a type that may be? -/
def hasB (l : List Nd) (a : Int) : Bool := decide (0 ≤ a ∧ a < l.length) && may l
/-- The error that is told. -/
def errA (b : Bool) : Int := if b then 0 else 500
def kidsA (l : List Nd) (a : Int) : List Nat := if hasB l a then kids l a else []
theorem has_of {l : List Nd} {a : Int} (h : hasB l a = true) : ∃ k : Nat, a = k ∧ k < l.length ∧ May l := by
  unfold hasB at h
  rw [Bool.and_eq_true, decide_eq_true_eq] at h
  exact ⟨a.toNat, by omega, by omega, may_of h.2⟩
theorem May.up {l : List Nd} (h : May l) {k : Nat} (hk : k < l.length) : Up l k := ⟨h.first, fun i h1 h2 => h.par i h1 (by omega)⟩
set_option maxRecDepth 20000 in
set_option maxHeartbeats 800000 in
theorem has (a : Option Addr) (cap : Nat) (l : List Nd) (i : Int) (w : World) (h : IsT w a l) :
    Calls Tryz.prog 120 #[.agg #[.slice a l.length cap], .int .i64 i] w fun r w' => r = .returned (.bool (hasB l i)) ∧ Below w.heap.size w w' := by
  have hlen := h.1
  unfold maxLen at hlen
  have hb : Below w.heap.size w (w.alloc (Obj.cells #[.slice a l.length cap] 24)) := (Below.refl _ _).alloc (Nat.le_refl _) _
  by_cases h0 : 0 ≤ i
  · by_cases h1 : i < l.length
    · have HB : Hid (hasB l i = may l) := by unfold Hid hasB; rw [decide_eq_true ⟨h0, h1⟩, Bool.true_and]
      rw [HB.out]
      go_enter Tryz.func120, Tryz.ntmps120
      go_wp2_with fail
      refine (mayC a cap l _ (h.later hb)).mono ?_
      rintro e w' ⟨rfl, hb'⟩
      go_wp2
      go_ret
      exact ⟨rfl, bel hb hb'⟩
    · have HB : hasB l i = false := by unfold hasB; rw [decide_eq_false (fun h => h1 h.2), Bool.false_and]
      rw [HB]
      clear HB
      go_enter Tryz.func120, Tryz.ntmps120
      go_wp2
      go_ret
      exact ⟨rfl, hb⟩
  · have HB : hasB l i = false := by unfold hasB; rw [decide_eq_false (fun h => h0 h.1), Bool.false_and]
    rw [HB]
    clear HB
    go_enter Tryz.func120, Tryz.ntmps120
    go_wp2
    go_ret
    exact ⟨rfl, hb⟩
set_option maxRecDepth 20000 in
set_option maxHeartbeats 800000 in
theorem kidsP (a : Option Addr) (cap : Nat) (l : List Nd) (i : Int) (w : World) (h : IsT w a l) :
    Calls Tryz.prog 69 #[.agg #[.slice a l.length cap], .int .i64 i] w fun r w' => ∃ o c, r = .returned (.tuple #[.slice o (kidsA l i).length c, .int .i64 (errA (hasB l i))]) ∧ w'.ownsRow w.heap.size 3 1 (.slice o (kidsA l i).length c) (kidsA l i).length (ints (kidsA l i)) ∧ Below w.heap.size w w' := by
  unfold kidsA errA
  have hb : Below w.heap.size w (w.alloc (Obj.cells #[.slice a l.length cap] 24)) := (Below.refl _ _).alloc (Nat.le_refl _) _
  have hc : (w.alloc (Obj.cells #[.slice a l.length cap] 24)).cell? ⟨w.heap.size, 0, none⟩ = some (.slice a l.length cap) := by simp
  cases hh : hasB l i
  · rw [if_neg (by simp), if_neg (by simp)]
    have HH : Hid (hasB l i = false) := hh
    clear hh
    go_enter Tryz.func69, Tryz.ntmps69
    go_wp2_with fail
    refine (has a cap l i _ (h.later hb)).mono ?_
    rintro e w' ⟨rfl, hb'⟩
    rw [HH.out]
    go_wp2
    go_ret2
    exact ⟨none, 0, rfl, World.ownsRow_nil _ _ _ _, bel hb hb'⟩
  · rw [if_pos rfl, if_pos rfl]
    obtain ⟨k, rfl, hk, hm⟩ := has_of hh
    have HH : Hid (hasB l k = true) := hh
    have HM : Hid (May l) := hm
    clear hh hm
    obtain ⟨x, rfl, hl⟩ := h.some (by omega)
    go_enter Tryz.func69, Tryz.ntmps69
    go_wp2_with fail
    refine (has _ cap l k _ (h.later hb)).mono ?_
    rintro e w' ⟨rfl, hb'⟩
    rw [HH.out]
    have hc2 := cell_later hb' hc
    go_wp2_with fail
    refine (kidsC x cap l HM.out.most k _ (hl.later (bel hb hb')) HM.out.first).mono ?_
    rintro e w3 ⟨o, c, rfl, hown, hb3⟩
    go_wp2
    go_ret2
    exact ⟨o, c, rfl, own_mono hown (bel hb hb').size, bel (bel hb hb') hb3⟩
end Go.Proofs.YtcpfhfdgfcilaaaGreatDoor.Tree
namespace Go.Proofs.YtcpfhfdgfcilaaaGreatDoor.Tree
open Go.ChangeShapes Go.WideShapes Go.ChangeAt Go.RowKit

/-- So many ints lie at the head of block g, and may be written. -/
structure Row (w : World) (g L : Nat) (f : Nat → Nat) : Prop where
  cell : ∀ i, i < L → w.cell? ⟨g, i, none⟩ = some (.int .i64 ((f i : Nat) : Int))
  free : ∀ i, i < L → w.frozen? ⟨g, i, none⟩ = false
theorem Row.set {w : World} {g L : Nat} {f : Nat → Nat} (h : Row w g L f) (j : Nat) (hj : j < L) (v : Nat) : Row (w.setCell ⟨g, j, none⟩ (.int .i64 ((v : Nat) : Int))) g L (fun i => if i = j then v else f i) := by
  constructor
  · intro i hi
    by_cases e : i = j
    · subst e
      rw [World.cell?_setCell_same _ _ _ (h.cell i hi), if_pos rfl]
    · rw [World.cell?_setCell_other _ _ _ _ (by intro c; exact e (by injection c with _ c2; exact c2.symm)), h.cell i hi, if_neg e]
  · intro i hi
    rw [World.frozen?_setCell]
    exact h.free i hi
theorem Row.later {w w' : World} {g L : Nat} {f : Nat → Nat} (h : Row w g L f) (b : Below w.heap.size w w') : Row w' g L f :=
  ⟨fun i hi => cell_later b (h.cell i hi), fun i hi => by rw [b.frozen (p := ⟨g, i, none⟩) (World.block_lt_of_cell? _ _ (h.cell i hi))]; exact h.free i hi⟩
theorem Row.as {w : World} {g L : Nat} {f f' : Nat → Nat} (h : Row w g L f) (e : ∀ i, i < L → f i = f' i) : Row w g L f' :=
  ⟨fun i hi => by rw [h.cell i hi, e i hi], h.free⟩
def zeros (n : Nat) : Array Value := madeCells (Value.cells (.int .i64 0)) n
theorem zeros_at (n i : Nat) (h : i < n) : (zeros n)[i]? = some (.int .i64 0) := by
  unfold zeros
  rw [← Array.getElem?_toList, show (Value.cells (.int .i64 0)) = #[.int .i64 0] from rfl, toList_madeCells_one, List.getElem?_replicate, if_pos h]
theorem Row.zeros (w : World) (n : Nat) : Row (w.alloc (.cells (zeros n) 3)) w.heap.size n (fun _ => 0) := by
  constructor
  · intro i hi
    rw [World.cell?_alloc_mark, zeros_at n i hi]
    rfl
  · intro i _
    rw [World.frozen?_alloc_mark]
    simp
theorem make_row (n : Nat) (h : n ≤ 8) (w : World) :
    ∃ w1, (Instr.makeSlice 38 (.int .i64 (n : Int)) (.int .i64 (n : Int))).run Tryz.prog w = .ok (.slice (some ⟨w.heap.size, 0, none⟩) n n) w1 ∧ Row w1 w.heap.size n (fun _ => 0) ∧ Below w.heap.size w w1 := by
  obtain ⟨i, hi, hz0, hz1, hz2⟩ := info_parts info3
  have := run_make (P := Tryz.prog) w 38 3 i (.int .i64 0) Tryz.underlying38 hi hz0 .i64 .i64 n n (by omega) (Int.le_refl _) (by rw [hz2]; omega) (by omega)
  rw [hz1, Nat.mul_one, Int.toNat_natCast] at this
  exact ⟨_, this, Row.zeros w n, (Below.refl _ _).alloc (Nat.le_refl _) _⟩

theorem refUp (x a b : Int) (w : World) :
    Calls Tryz.prog 150 #[.int .i64 x, .int .i64 a, .int .i64 b] w fun r w' => r = .returned (.bool (decide (a ≤ x ∧ x ≤ b))) ∧ w' = w := by
  by_cases h : a ≤ x
  · go_enter Tryz.func150, Tryz.ntmps150
    go_wp2
    go_ret
    exact ⟨ret_bool (by simp [h]), rfl⟩
  · go_enter Tryz.func150, Tryz.ntmps150
    go_wp2
    go_ret
    exact ⟨ret_bool (by simp; omega), rfl⟩
theorem refLeaf (k : Int) (w : World) :
    Calls Tryz.prog 54 #[.int .i64 k] w fun r w' => r = .returned (.bool (isLeaf k)) ∧ w' = w := by
  unfold isLeaf
  by_cases h : k = 3
  · go_enter Tryz.func54, Tryz.ntmps54
    go_wp2
    go_ret
    exact ⟨ret_bool (by simp [h]), rfl⟩
  · go_enter Tryz.func54, Tryz.ntmps54
    go_wp2
    go_ret
    exact ⟨ret_bool (by rw [Bool.eq_iff_iff]; simp [h]), rfl⟩
theorem may_head {l : List Nd} (h : headOk l = false) : may l = false := by unfold may; rw [h]; rfl
theorem may_at {l : List Nd} {k : Nat} (hk : k < l.length) (h : okAt l k = false) : may l = false := by
  unfold may
  rw [okTo_no l _ k hk h, Bool.and_false]
theorem may_all {l : List Nd} (h0 : headOk l = true) (h : ∀ i, i < l.length → okAt l i = true) : may l = true := by
  unfold may
  rw [h0, okTo_all l _ h]
  rfl
/-- How deep the nodes ahead of k lie; of the others nothing is told yet. -/
def deepF (l : List Nd) (k i : Nat) : Nat := if i < k then depth l i else 0
theorem deepF_zero (l : List Nd) (i : Nat) : deepF l 0 i = 0 := rfl

theorem okAt_eq (l : List Nd) (k : Nat) {kd pr : Int} {nl : Bool} (h : nd l k = ⟨kd, pr, nl⟩) : okAt l k = (decide (0 ≤ kd ∧ kd ≤ 4) && (!(isLeaf kd && decide (0 < (kids l k).length) || decide (kd = 3) && decide ((kids l k).length ≠ 1) || decide (kd = 4) && decide ((kids l k).length < 1))) && (decide (k = 0) || decide (0 ≤ pr ∧ pr < k) && decide (depth l pr.toNat < 4))) := by
  unfold okAt
  rw [h]
theorem okAt_kind {l : List Nd} {k : Nat} {kd pr : Int} {nl : Bool} (h : nd l k = ⟨kd, pr, nl⟩) (h' : ¬ (0 ≤ kd ∧ kd ≤ 4)) : okAt l k = false := by
  rw [okAt_eq l k h, decide_eq_false h']; rfl
theorem okAt_many {l : List Nd} {k : Nat} {kd pr : Int} {nl : Bool} (h : nd l k = ⟨kd, pr, nl⟩) (h' : isLeaf kd = true ∧ 0 < (kids l k).length ∨ kd = 3 ∧ (kids l k).length ≠ 1 ∨ kd = 4 ∧ (kids l k).length < 1) : okAt l k = false := by
  rw [okAt_eq l k h]
  rcases h' with ⟨h1, h2⟩ | ⟨h1, h2⟩ | ⟨h1, h2⟩
  · rw [h1, decide_eq_true h2]; simp
  · rw [decide_eq_true h1, decide_eq_true h2]; simp
  · rw [decide_eq_true h1, decide_eq_true h2]; simp
theorem okAt_par {l : List Nd} {k : Nat} {kd pr : Int} {nl : Bool} (h : nd l k = ⟨kd, pr, nl⟩) (h0 : k ≠ 0) (h' : ¬ (0 ≤ pr ∧ pr < k) ∨ 4 ≤ depth l pr.toNat) : okAt l k = false := by
  rw [okAt_eq l k h, decide_eq_false h0]
  rcases h' with h' | h'
  · rw [decide_eq_false h']; simp
  · rw [decide_eq_false (p := depth l pr.toNat < 4) (by omega)]; simp
theorem okAt_yes {l : List Nd} {k : Nat} {kd pr : Int} {nl : Bool} (h : nd l k = ⟨kd, pr, nl⟩) (h1 : 0 ≤ kd ∧ kd ≤ 4) (h2 : ¬ (isLeaf kd = true ∧ 0 < (kids l k).length ∨ kd = 3 ∧ (kids l k).length ≠ 1 ∨ kd = 4 ∧ (kids l k).length < 1)) (h3 : k = 0 ∨ (0 ≤ pr ∧ pr < k) ∧ depth l pr.toNat < 4) : okAt l k = true := by
  rw [okAt_eq l k h]
  simp only [Bool.and_eq_true, Bool.or_eq_true, Bool.not_eq_true', Bool.or_eq_false_iff, Bool.and_eq_false_iff, decide_eq_true_eq, decide_eq_false_iff_not]
  refine ⟨⟨h1, ⟨?_, ?_⟩, ?_⟩, h3⟩
  · cases hl : isLeaf kd
    · exact .inl rfl
    · exact .inr (fun c => h2 (.inl ⟨hl, c⟩))
  · by_cases c : kd = 3
    · exact .inr (fun d => h2 (.inr (.inl ⟨c, d⟩)))
    · exact .inl c
  · by_cases c : kd = 4
    · exact .inr (fun d => h2 (.inr (.inr ⟨c, d⟩)))
    · exact .inl c
theorem six (kd : Int) (m : Nat) : (isLeaf kd = true ∧ kd ≠ 3 ∧ kd ≠ 4 ∧ 0 < m ∨ isLeaf kd = false ∧ kd = 3 ∧ m ≠ 1 ∨ isLeaf kd = false ∧ kd = 4 ∧ m < 1) ∨ (isLeaf kd = true ∧ kd ≠ 3 ∧ kd ≠ 4 ∧ m = 0 ∨ isLeaf kd = false ∧ kd = 3 ∧ m = 1 ∨ isLeaf kd = false ∧ kd = 4 ∧ 1 ≤ m) := by
  unfold isLeaf
  simp only [decide_eq_true_eq, decide_eq_false_iff_not]
  omega
theorem six_bad {kd : Int} {m : Nat} (h6 : isLeaf kd = true ∧ kd ≠ 3 ∧ kd ≠ 4 ∧ 0 < m ∨ isLeaf kd = false ∧ kd = 3 ∧ m ≠ 1 ∨ isLeaf kd = false ∧ kd = 4 ∧ m < 1) : isLeaf kd = true ∧ 0 < m ∨ kd = 3 ∧ m ≠ 1 ∨ kd = 4 ∧ m < 1 := by
  rcases h6 with ⟨a, b, c, d⟩ | ⟨a, b, c⟩ | ⟨a, b, c⟩
  · exact .inl ⟨a, d⟩
  · exact .inr (.inl ⟨b, c⟩)
  · exact .inr (.inr ⟨b, c⟩)
theorem six_good {kd : Int} {m : Nat} (h6 : isLeaf kd = true ∧ kd ≠ 3 ∧ kd ≠ 4 ∧ m = 0 ∨ isLeaf kd = false ∧ kd = 3 ∧ m = 1 ∨ isLeaf kd = false ∧ kd = 4 ∧ 1 ≤ m) : ¬ (isLeaf kd = true ∧ 0 < m ∨ kd = 3 ∧ m ≠ 1 ∨ kd = 4 ∧ m < 1) := by
  rintro (⟨a', b'⟩ | ⟨a', b'⟩ | ⟨a', b'⟩) <;> rcases h6 with ⟨a, b, c, d⟩ | ⟨a, b, c⟩ | ⟨a, b, c⟩
  all_goals first | omega | (rw [a'] at a; cases a)
theorem deepF_step (l : List Nd) (k i : Nat) : deepF l (k + 1) i = if i = k then depth l k else deepF l k i := by
  unfold deepF
  by_cases e : i = k
  · subst e; rw [if_pos (by omega), if_pos rfl]
  · rw [if_neg e]
    by_cases c : i < k
    · rw [if_pos (by omega), if_pos c]
    · rw [if_neg (by omega), if_neg c]
theorem deep_one (l : List Nd) (i : Nat) (_ : i < l.length) : deepF l 0 i = deepF l 1 i := by
  rw [deepF_step l 0 i]
  by_cases e : i = 0
  · rw [if_pos e, depth_first]; rfl
  · rw [if_neg e]
theorem depth_at {l : List Nd} {k q : Nat} (h0 : k ≠ 0) (hp : (nd l k).par = q) (hq : q < k) : depth l k = depth l q + 1 := by
  unfold depth
  rw [row_eq, depthF, if_neg h0, hp, Int.toNat_natCast, tab_at _ _ _ hq]

set_option maxRecDepth 20000 in
set_option maxHeartbeats 4000000 in
theorem refMay (a : Option Addr) (cap : Nat) (l : List Nd) (w : World) (h : IsT w a l) :
    Calls Tryz.prog 82 #[.agg #[.slice a l.length cap]] w fun r w' => r = .returned (.bool (may l)) ∧ Below w.heap.size w w' := by
  have hlen := h.1
  unfold maxLen at hlen
  have hb : Below w.heap.size w (w.alloc (Obj.cells #[.slice a l.length cap] 24)) := (Below.refl _ _).alloc (Nat.le_refl _) _
  by_cases h1 : 1 ≤ l.length
  · by_cases h8 : l.length ≤ 8
    · obtain ⟨x, rfl, hl⟩ := h.some h1
      have hp0 := (hl.later hb).par' 0 h1
      rw [Nat.zero_mul, show x.add 0 = x from rfl] at hp0
      by_cases hf : (nd l 0).par = -1
      · have HH : Hid (headOk l = true) := by unfold Hid headOk; rw [decide_eq_true ⟨h1, h8⟩, decide_eq_true hf]; rfl
        have HF : Hid ((nd l 0).par = -1) := hf
        rw [hf] at hp0
        clear hf
        obtain ⟨w1, hmk, hrow, hbm⟩ := make_row l.length h8 (w.alloc (Obj.cells #[.slice (some x) l.length cap] 24))
        have hc1 : (w.alloc (Obj.cells #[.slice (some x) l.length cap] 24)).cell? ⟨w.heap.size, 0, none⟩ = some (.slice (some x) l.length cap) := by simp
        have hz : w.heap.size < (w.alloc (Obj.cells #[.slice (some x) l.length cap] 24)).heap.size := by simp
        go_enter Tryz.func82, Tryz.ntmps82
        go_wp2_with fail
        have hsz : (w.alloc (Obj.cells #[.slice (some x) l.length cap] 24)).heap.size = w.heap.size + 1 := by simp
        rw [hsz] at hrow
        have hl1 := hl.later hb
        generalize w.alloc (Obj.cells #[.slice (some x) l.length cap] 24) = wb at *
        have HSZ : Hid (wb.heap.size = w.heap.size + 1) := hsz
        clear hsz hmk hp0 hl h hz
        go_loopw [4] (fun t wr => ∃ k : Nat, k ≤ l.length ∧ t = .int .i64 (k : Int) ∧ (∀ j, j < k → okAt l j = true) ∧ Row wr (w.heap.size + 1) l.length (deepF l k) ∧ Below wb.heap.size wb wr) (fun t _ => l.length - (intOf t).toNat)
        case atStart => exact ⟨0, Nat.zero_le _, rfl, fun j hj => by omega, hrow.as (fun i _ => (deepF_zero l i).symm), hbm⟩
        case round =>
          obtain ⟨k, hk, rfl, hall, hrw, hbl⟩ := hrel
          have HA : Hid (∀ j, j < k → okAt l j = true) := hall
          have HRW : Hid (Row wr (w.heap.size + 1) l.length (deepF l k)) := hrw
          have hc2 := cell_later hbl hc1
          have hl2 := hl1.later hbl
          clear hall hrw hrow
          by_cases hlt : k < l.length
          · have hp := hl2.par' k (by omega)
            have hq := hl2.kind' k (by omega)
            have hr := hl2.null' k (by omega)
            have HL : Hid (Lies wb x l) := hl1
            clear hl2 hl1
            generalize hn : nd l k = n at *
            obtain ⟨kd, pr, nl⟩ := n
            have HN : Hid (nd l k = ⟨kd, pr, nl⟩) := hn
            clear hn
            simp only at hp hq hr
            have hb4 : Below wr.heap.size wr (wr.alloc (Obj.cells #[.int .i64 kd, .int .i64 pr, .bool nl] 40)) := (Below.refl _ _).alloc (Nat.le_refl _) _
            have hm0 : (wr.alloc (Obj.cells #[.int .i64 kd, .int .i64 pr, .bool nl] 40)).cell? ⟨wr.heap.size, 0, none⟩ = some (.int .i64 kd) := by simp
            have hm1 : (wr.alloc (Obj.cells #[.int .i64 kd, .int .i64 pr, .bool nl] 40)).cell? ⟨wr.heap.size, 1, none⟩ = some (.int .i64 pr) := by simp
            by_cases hkd : 0 ≤ kd ∧ kd ≤ 4
            · have HD : Hid (decide (0 ≤ kd ∧ kd ≤ 4) = true) := decide_eq_true hkd
              have HKD : Hid (0 ≤ kd ∧ kd ≤ 4) := hkd
              clear hkd
              go_wp2_with fail
              refine (refUp _ _ _ _).mono ?_
              rintro e w' ⟨rfl, rfl⟩
              rw [HD.out]
              generalize wr.alloc (Obj.cells #[.int .i64 kd, .int .i64 pr, .bool nl] 40) = w4 at *
              have hc4 := cell_later hb4 hc2
              have hrw4 := HRW.out.later hb4
              have hbl4 : Below wb.heap.size wb w4 := hbl.trans (hb4.mono hbl.size)
              have HRW4 : Hid (Row w4 (w.heap.size + 1) l.length (deepF l k)) := hrw4
              clear hrw4 HRW hp hq hr hb4 hbl hc2
              go_wp2_with fail
              refine (refKids x cap l h1 h8 k _ (HL.out.later hbl4)).mono ?_
              rintro e w5 ⟨o, c, rfl, hown, hb5⟩
              have hc5 := cell_later hb5 hc4
              have hm05 := cell_later hb5 hm0
              have hm15 := cell_later hb5 hm1
              have HRW5 : Hid (Row w5 (w.heap.size + 1) l.length (deepF l k)) := HRW4.out.later hb5
              have hbl5 : Below wb.heap.size wb w5 := hbl4.trans (hb5.mono hbl4.size)
              clear hown hb5 hc4 hm0 hm1 HRW4 hbl4
              have H6 : Hid _ := six kd (kids l k).length
              have HM : Hid _ := @okAt_many l k kd pr nl HN.out
              have HY : Hid _ := @okAt_yes l k kd pr nl HN.out HKD.out
              have HMF : Hid (okAt l k = false → may l = false) := may_at hlt
              generalize (kids l k).length = m at *
              go_wp2_with fail
              refine (refLeaf _ _).mono ?_
              rintro e w' ⟨rfl, rfl⟩
              rcases H6.out with h6 | h6
              · have HF : Hid (may l = false) := HMF.out (HM.out (six_bad h6))
                clear HM HY HMF H6
                rcases h6 with ⟨a, b, c, d⟩ | ⟨a, b, c⟩ | ⟨a, b, c⟩
                all_goals
                  rw [a]
                  clear a
                  go_wp2
                  go_ret
                  exact ⟨ret_bool HF.out.symm, bel hb hbl5⟩
              · have HG : Hid (¬ (isLeaf kd = true ∧ 0 < m ∨ kd = 3 ∧ m ≠ 1 ∨ kd = 4 ∧ m < 1)) := six_good h6
                clear HM H6
                by_cases hk0 : k = 0
                · have HOK : Hid (okAt l k = true) := HY.out HG.out (.inl hk0)
                  have hz0 : (k : Int) = 0 := by omega
                  have HZ0 : Hid ((k : Int) = 0) := hz0
                  clear HY HG HMF hz0
                  rcases h6 with ⟨a, b, c, d⟩ | ⟨a, b, c⟩ | ⟨a, b, c⟩
                  all_goals
                    rw [a]
                    clear a
                    go_wp2
                    go_roundw
                    case rel =>
                      refine ⟨1, h1, rfl, fun j hj => ?_, ?_, hbl5⟩
                      · obtain rfl : j = k := by omega
                        exact HOK.out
                      · have := HRW5.out
                        rw [hk0] at this
                        exact this.as (deep_one l)
                    case measure => simp [intOf]; omega
                · have hk1 : ¬ ((k : Int) = 0) := by omega
                  by_cases hpr : 0 ≤ pr ∧ pr < k
                  · have HU : Hid (decide (0 ≤ pr ∧ pr ≤ (k : Int) - 1) = true) := decide_eq_true ⟨hpr.1, by omega⟩
                    obtain ⟨q, rfl⟩ := Int.eq_ofNat_of_zero_le hpr.1
                    have hqk : q < k := by omega
                    have hdq := HRW5.out.cell q (by omega)
                    rw [show deepF l k q = depth l q from if_pos hqk] at hdq
                    have HDK : Hid (depth l k = depth l q + 1) := depth_at hk0 (by rw [HN.out]) hqk
                    have HPA : Hid _ := @okAt_par l k kd (q : Int) nl HN.out hk0
                    by_cases hd4 : 4 ≤ depth l q
                    · have HF : Hid (may l = false) := HMF.out (HPA.out (.inr (by rw [Int.toNat_natCast]; exact hd4)))
                      clear HPA HDK HY HG HMF hpr
                      generalize depth l q = dq at *
                      rcases h6 with ⟨a, b, c, d⟩ | ⟨a, b, c⟩ | ⟨a, b, c⟩
                      all_goals
                        rw [a]
                        clear a
                        go_wp2_with fail
                        refine (refUp _ _ _ _).mono ?_
                        rintro e w' ⟨rfl, rfl⟩
                        rw [HU.out]
                        go_wp2
                        go_ret
                        exact ⟨ret_bool HF.out.symm, bel hb hbl5⟩
                    · have HOK : Hid (okAt l k = true) := HY.out HG.out (.inr ⟨⟨by omega, by omega⟩, by rw [Int.toNat_natCast]; omega⟩)
                      have hck := HRW5.out.cell k hlt
                      have hfk := HRW5.out.free k hlt
                      clear HPA HY HG HMF hpr
                      generalize depth l q = dq at *
                      generalize deepF l k k = dk at *
                      rcases h6 with ⟨a, b, c, d⟩ | ⟨a, b, c⟩ | ⟨a, b, c⟩
                      all_goals
                        rw [a]
                        clear a
                        go_wp2_with fail
                        refine (refUp _ _ _ _).mono ?_
                        rintro e w' ⟨rfl, rfl⟩
                        rw [HU.out]
                        go_wp2
                        go_roundw
                        case rel =>
                          refine ⟨k + 1, by omega, by go_num, fun j hj => ?_, (HRW5.out.set k hlt (dq + 1)).as (fun i _ => ?_), hbl5.setCell (by show wb.heap.size ≤ w.heap.size + 1; rw [HSZ.out]; exact Nat.le_refl _) _⟩
                          · by_cases e : j = k
                            · rw [e]; exact HOK.out
                            · exact HA.out j (by omega)
                          · rw [deepF_step l k i, HDK.out]
                        case measure => simp [intOf]; omega
                  · have HU : Hid (decide (0 ≤ pr ∧ pr ≤ (k : Int) - 1) = false) := decide_eq_false (fun h => hpr ⟨h.1, by omega⟩)
                    have HF : Hid (may l = false) := HMF.out (okAt_par HN.out hk0 (.inl hpr))
                    clear HY HG HMF hpr
                    rcases h6 with ⟨a, b, c, d⟩ | ⟨a, b, c⟩ | ⟨a, b, c⟩
                    all_goals
                      rw [a]
                      clear a
                      go_wp2_with fail
                      refine (refUp _ _ _ _).mono ?_
                      rintro e w' ⟨rfl, rfl⟩
                      rw [HU.out]
                      go_wp2
                      go_ret
                      exact ⟨ret_bool HF.out.symm, bel hb hbl5⟩
            · have HF : Hid (may l = false) := may_at hlt (okAt_kind HN.out hkd)
              have HD : Hid (decide (0 ≤ kd ∧ kd ≤ 4) = false) := decide_eq_false hkd
              clear hkd
              go_wp2_with fail
              refine (refUp _ _ _ _).mono ?_
              rintro e w' ⟨rfl, rfl⟩
              rw [HD.out]
              go_wp2
              go_ret
              exact ⟨ret_bool HF.out.symm, bel hb (hbl.trans (hb4.mono hbl.size))⟩
          · obtain rfl : k = l.length := by omega
            have HF : Hid (may l = true) := may_all HH.out HA.out
            go_wp2
            go_ret
            exact ⟨ret_bool HF.out.symm, bel hb hbl⟩
      · have HH : headOk l = false := by unfold headOk; rw [decide_eq_false hf, Bool.and_false]
        rw [may_head HH]
        clear HH
        generalize nd l 0 = n at *
        have hne : (n.par != -1) = true := by simpa using hf
        go_enter Tryz.func82, Tryz.ntmps82
        go_wp2
        go_ret
        exact ⟨rfl, hb⟩
    · have HH : headOk l = false := by unfold headOk; rw [decide_eq_false (fun h => h8 h.2), Bool.false_and]
      rw [may_head HH]
      clear HH
      go_enter Tryz.func82, Tryz.ntmps82
      go_wp2
      go_ret
      exact ⟨rfl, hb⟩
  · have HH : headOk l = false := by unfold headOk; rw [decide_eq_false (fun h => h1 h.1), Bool.false_and]
    rw [may_head HH]
    clear HH
    go_enter Tryz.func82, Tryz.ntmps82
    go_wp2
    go_ret
    exact ⟨rfl, hb⟩
end Go.Proofs.YtcpfhfdgfcilaaaGreatDoor.Tree
namespace Go.Proofs.YtcpfhfdgfcilaaaGreatDoor.Tree
open Go.ChangeShapes Go.WideShapes Go.ChangeAt Go.RowKit

theorem take_snoc (p : List Nd) (k : Nat) (h : k < p.length) : p.take (k + 1) = p.take k ++ [nd p k] := by
  rw [List.take_succ_eq_append_getElem h]
  unfold nd
  rw [List.getD_eq_getElem?_getD, List.getElem?_eq_getElem h]
  rfl
end Go.Proofs.YtcpfhfdgfcilaaaGreatDoor.Tree
namespace Go.Proofs.YtcpfhfdgfcilaaaGreatDoor.Tree
open Go.ChangeShapes Go.WideShapes Go.ChangeAt Go.RowKit

theorem num (e : Int) (w : World) : Calls Tryz.prog 18 #[.int .i64 e] w fun r w' => r = .returned (.int .i64 e) ∧ w' = w := by
  go_enter Tryz.func18, Tryz.ntmps18
  go_wp2
  go_ret
  exact ⟨rfl, rfl⟩
/-- Ints that can be read and written. -/
def IsI (w : World) (b : Nat) (o : Option Addr) (p : List Nat) : Prop := p = [] ∨ ∃ g, o = some ⟨g, 0, none⟩ ∧ b ≤ g ∧ Row w g p.length (fun i => p.getD i 0)
theorem own_ints {w : World} {b c : Nat} {o : Option Addr} {p : List Nat} (h : w.ownsRow b 3 1 (.slice o p.length c) p.length (ints p)) : IsI w b o p := by
  rcases h.2 with ⟨_, h1⟩ | ⟨g, cap, cur, h0, hg, _⟩
  · exact .inl (List.eq_nil_of_length_eq_zero h1)
  · injection h0 with h2 h3 h4
    subst h2 h4
    refine .inr ⟨g, rfl, hg, fun i hi => ?_, fun i _ => h.frozenAt i⟩
    rw [h.cellAt i (by omega)]
    simp [ints, hi]
theorem IsI.later {w w' : World} {b : Nat} {o : Option Addr} {p : List Nat} (h : IsI w b o p) (hb : Below w.heap.size w w') : IsI w' b o p :=
  h.imp id fun ⟨g, e, hg, hr⟩ => ⟨g, e, hg, hr.later hb⟩
structure RowZ (w : World) (g L : Nat) (f : Nat → Int) : Prop where
  cell : ∀ i, i < L → w.cell? ⟨g, i, none⟩ = some (.int .i64 (f i))
  free : ∀ i, i < L → w.frozen? ⟨g, i, none⟩ = false
theorem RowZ.set {w : World} {g L : Nat} {f : Nat → Int} (h : RowZ w g L f) (j : Nat) (hj : j < L) (v : Int) : RowZ (w.setCell ⟨g, j, none⟩ (.int .i64 v)) g L (fun i => if i = j then v else f i) := by
  constructor
  · intro i hi
    by_cases e : i = j
    · subst e
      rw [World.cell?_setCell_same _ _ _ (h.cell i hi), if_pos rfl]
    · rw [World.cell?_setCell_other _ _ _ _ (by intro c; exact e (by injection c with _ c2; exact c2.symm)), h.cell i hi, if_neg e]
  · intro i hi
    rw [World.frozen?_setCell]
    exact h.free i hi
theorem RowZ.as {w : World} {g L : Nat} {f f' : Nat → Int} (h : RowZ w g L f) (e : ∀ i, i < L → f i = f' i) : RowZ w g L f' :=
  ⟨fun i hi => by rw [h.cell i hi, e i hi], h.free⟩
end Go.Proofs.YtcpfhfdgfcilaaaGreatDoor.Tree
namespace Go.Proofs.YtcpfhfdgfcilaaaGreatDoor.Tree
open Go.ChangeShapes Go.WideShapes Go.ChangeAt Go.RowKit

end Go.Proofs.YtcpfhfdgfcilaaaGreatDoor.Tree
namespace Go.Proofs.YtcpfhfdgfcilaaaGreatDoor.Tree
open Go.ChangeShapes Go.WideShapes Go.ChangeAt Go.RowKit

theorem getD_take (z : List Nd) (n i : Nat) (h : i < n) : (z.take n).getD i ⟨0, 0, false⟩ = z.getD i ⟨0, 0, false⟩ := by
  rw [List.getD_eq_getElem?_getD, List.getD_eq_getElem?_getD, List.getElem?_take, if_pos h]
theorem isT_of {w : World} {a : Option Addr} {len cap : Nat} {z : List Nd} (h : IsNodes w a len cap z) : ∃ l : List Nd, len = l.length ∧ IsT w a l ∧ l.length ≤ cap ∧ (a = none ∧ l = [] ∧ cap = 0 ∨ ∃ x, a = some x ∧ Lies w x l) := by
  rcases h with ⟨rfl, rfl, rfl, rfl⟩ | ⟨x, rfl, hlc, hm, hz, hl, _⟩
  · exact ⟨[], rfl, ⟨Nat.zero_le _, .inl rfl⟩, Nat.le_refl _, .inl ⟨rfl, rfl, rfl⟩⟩
  · have hlen : (z.take len).length = len := by rw [List.length_take]; omega
    have hl' : Lies w x (z.take len) := by
      refine ⟨fun i hi => ?_, fun i hi => ?_, fun i hi => ?_⟩
      · rw [getD_take _ _ _ (by omega)]; exact hl.kind i (by omega)
      · rw [getD_take _ _ _ (by omega)]; exact hl.par i (by omega)
      · rw [getD_take _ _ _ (by omega)]; exact hl.null i (by omega)
    exact ⟨z.take len, hlen.symm, ⟨by omega, .inr ⟨x, rfl, hl'⟩⟩, by omega, .inr ⟨x, rfl, hl'⟩⟩
end Go.Proofs.YtcpfhfdgfcilaaaGreatDoor.Tree
namespace Go.Proofs.YtcpfhfdgfcilaaaGreatDoor.Arr
open Go.ChangeShapes Go.WideShapes Go.ChangeAt Go.RowKit

/-- An array. -/
structure Arr where
  layout : Int
  offset : Int
  length : Int
  valid : ByteArray
  ends : ByteArray
  data : ByteArray
  kids : List Arr
/-- An empty one. -/
def nil : Arr := ⟨0, 0, 0, ByteArray.empty, ByteArray.empty, ByteArray.empty, []⟩
/-- Its numbers are ints, its texts no longer than that. -/
structure Arr.ok (B : Nat) (a : Arr) : Prop where
  layout : (Lit.int .i64 a.layout).wf = true
  offset : (Lit.int .i64 a.offset).wf = true
  length : (Lit.int .i64 a.length).wf = true
  valid : a.valid.size ≤ B
  ends : a.ends.size ≤ B
  data : a.data.size ≤ B
/-- An array's seven cells. -/
def Arr.cells (a : Arr) (o : Option Addr) (cap : Nat) : List Value := [.int .i64 a.layout, .int .i64 a.offset, .int .i64 a.length, .string a.valid, .string a.ends, .string a.data, .slice o a.kids.length cap]
/-- These cells are an array's, as it lies in a world; so deep it goes. -/
def HoldsF (B bytes : Nat) (w : World) : Nat → List Value → Arr → Prop
  | 0, _, _ => False
  | f + 1, cs, a => ∃ (o : Option Addr) (cap : Nat), cs = a.cells o cap ∧ a.ok B ∧ a.kids.length ≤ cap ∧ cap * bytes ≤ B ∧ cap ≤ maxLen ∧
      (o = none ∧ a.kids = [] ∧ cap = 0 ∨ ∃ x, o = some x ∧ ∀ i, i < a.kids.length → ∃ cs', cs'.length = 7 ∧ (∀ j, j < 7 → w.cell? (x.add (i * 7 + j)) = cs'[j]?) ∧ HoldsF B bytes w f cs' (a.kids.getD i nil))
theorem HoldsF.later {B bytes : Nat} {w w' : World} (hb : Below w.heap.size w w') : ∀ {f : Nat} {cs : List Value} {a : Arr}, HoldsF B bytes w f cs a → HoldsF B bytes w' f cs a := by
  intro f
  induction f with
  | zero => intro cs a h; cases h
  | succ f ih =>
    rintro cs a ⟨o, cap, h1, h2, h3, h4, h5, h6⟩
    refine ⟨o, cap, h1, h2, h3, h4, h5, h6.imp id ?_⟩
    rintro ⟨x, e, hx⟩
    refine ⟨x, e, fun i hi => ?_⟩
    obtain ⟨cs', hl, hc, hh⟩ := hx i hi
    refine ⟨cs', hl, fun j hj => ?_, ih hh⟩
    have hv : cs'[j]? = some (cs'[j]'(by omega)) := List.getElem?_eq_getElem (by omega)
    have := hc j hj
    rw [hv] at this ⊢
    exact (hb.cell (World.block_lt_of_cell? _ _ this)).trans this

theorem HoldsF.more {B bytes : Nat} {w : World} : ∀ {f : Nat} {cs : List Value} {a : Arr}, HoldsF B bytes w f cs a → HoldsF B bytes w (f + 1) cs a := by
  intro f
  induction f with
  | zero => intro cs a h; cases h
  | succ f ih =>
    rintro cs a ⟨o, cap, h1, h2, h3, h4, h5, h6⟩
    refine ⟨o, cap, h1, h2, h3, h4, h5, h6.imp id ?_⟩
    rintro ⟨x, e, hx⟩
    refine ⟨x, e, fun i hi => ?_⟩
    obtain ⟨cs', hl, hc, hh⟩ := hx i hi
    exact ⟨cs', hl, hc, ih hh⟩

section
variable {H : Type} {enc : TypeId × Value → H} {P : Program} {w : World} {base : Nat} {held : Bool}

end
end Go.Proofs.YtcpfhfdgfcilaaaGreatDoor.Arr
namespace Go.Proofs.YtcpfhfdgfcilaaaGreatDoor.Val

def digF : Nat → Nat → List UInt8
  | 0, _ => []
  | f + 1, n => (if n < 10 then [] else digF f (n / 10)) ++ [UInt8.ofNat (48 + n % 10)]
/-- The digits of a number that is not below 0. -/
def dig (n : Nat) : List UInt8 := digF 20 n
theorem digF_succ (f n : Nat) : digF (f + 1) n = (if n < 10 then [] else digF f (n / 10)) ++ [UInt8.ofNat (48 + n % 10)] := rfl
theorem digF_more (f : Nat) : ∀ n, n < 10 ^ (f + 1) → digF (f + 1) n = digF (f + 2) n := by
  induction f with
  | zero =>
    intro n hn
    have h : n < 10 := by simpa using hn
    rw [digF_succ (0 + 1) n, digF_succ 0 n, if_pos h, if_pos h]
  | succ f ih =>
    intro n hn
    rw [digF_succ (f + 1 + 1) n, digF_succ (f + 1) n]
    by_cases h : n < 10
    · rw [if_pos h, if_pos h]
    · rw [if_neg h, if_neg h, ih (n / 10) (by rw [Nat.pow_succ] at hn; omega)]
/-- The last digit, and those ahead of it. -/
theorem dig_eq (n : Nat) (h : n < 10 ^ 20) : dig n = (if n < 10 then [] else dig (n / 10)) ++ [UInt8.ofNat (48 + n % 10)] := by
  unfold dig
  rw [digF]
  by_cases c : n < 10
  · rw [if_pos c, if_pos c]
  · rw [if_neg c, if_neg c, digF_more 18 (n / 10) (by omega)]
theorem dig_low (n : Nat) (h : n < 10) : dig n = [UInt8.ofNat (48 + n)] := by
  rw [dig_eq n (by omega), if_pos h, Nat.mod_eq_of_lt h]
  rfl
theorem dig_high (n : Nat) (h : 10 ≤ n) (h2 : n < 10 ^ 20) : dig n = dig (n / 10) ++ [UInt8.ofNat (48 + n % 10)] := by
  rw [dig_eq n h2, if_neg (by omega)]
theorem byte_nat (n : Nat) (h : n < 256) : (UInt8.ofNat n).toNat = n := by
  simp
  omega
theorem length_digF (f n : Nat) : (digF f n).length ≤ f := by
  induction f generalizing n with
  | zero => exact Nat.le_refl _
  | succ f ih =>
    rw [digF, List.length_append]
    split
    · simp
    · have := ih (n / 10)
      simp
      omega
theorem length_dig (n : Nat) : (dig n).length ≤ 20 := length_digF 20 n
theorem dig_ne (n : Nat) : dig n ≠ [] := by
  unfold dig
  rw [digF]
  simp
theorem digF_digit (f n : Nat) : ∀ b ∈ digF f n, 48 ≤ b.toNat ∧ b.toNat ≤ 57 := by
  induction f generalizing n with
  | zero => intro b hb; cases hb
  | succ f ih =>
    intro b hb
    rw [digF, List.mem_append] at hb
    rcases hb with hb | hb
    · split at hb
      · cases hb
      · exact ih _ b hb
    · rw [List.mem_singleton] at hb
      subst hb
      rw [byte_nat _ (by omega)]
      omega
theorem dig_digit (n : Nat) : ∀ b ∈ dig n, 48 ≤ b.toNat ∧ b.toNat ≤ 57 := digF_digit 20 n
/-- So many digits: a number below that. -/
theorem length_dig_le (k : Nat) : ∀ n, n < 10 ^ (k + 1) → k < 20 → (dig n).length ≤ k + 1 := by
  induction k with
  | zero =>
    intro n hn _
    rw [dig_low n (by simpa using hn)]
    exact Nat.le_refl _
  | succ k ih =>
    intro n hn hk
    have hp : 10 ^ (k + 1 + 1) ≤ 10 ^ 20 := Nat.pow_le_pow_right (by decide) (by omega)
    by_cases c : n < 10
    · rw [dig_low n c]
      simp
    · rw [dig_high n (by omega) (by omega), List.length_append]
      have := ih (n / 10) (by rw [Nat.pow_succ] at hn; omega) (by omega)
      simp
      omega
/-- What digits count to. -/
def evalN (l : List UInt8) : Int := l.foldl (fun a b => 10 * a + ((b.toNat : Int) - 48)) 0
theorem evalN_snoc (l : List UInt8) (b : UInt8) : evalN (l ++ [b]) = 10 * evalN l + ((b.toNat : Int) - 48) := by
  unfold evalN
  rw [List.foldl_append]
  rfl
theorem evalN_nil : evalN [] = 0 := rfl
theorem evalN_digF (f : Nat) : ∀ n, n < 10 ^ f → evalN (digF f n) = (n : Int) := by
  induction f with
  | zero => intro n hn; simp at hn; subst hn; rfl
  | succ f ih =>
    intro n hn
    rw [digF, evalN_snoc, byte_nat _ (by omega)]
    split
    · rw [evalN_nil]
      omega
    · rw [ih (n / 10) (by rw [Nat.pow_succ] at hn; omega)]
      omega
theorem evalN_dig (n : Nat) (h : n < 10 ^ 20) : evalN (dig n) = (n : Int) := evalN_digF 20 n h
/-- A whole number's digits, a sign ahead if it is below 0. -/
def intD (x : Int) : List UInt8 := if 0 ≤ x then dig x.toNat else 45 :: dig (-x).toNat
/-- What they count to. -/
def evalZ (l : List UInt8) : Int := if l.head? = some 45 then - evalN l.tail else evalN l
/-- A number of 64 bits. -/
def in64 (x : Int) : Prop := -9223372036854775808 ≤ x ∧ x ≤ 9223372036854775807
theorem dig_head (n : Nat) : (dig n).head? ≠ some 45 := by
  cases e : dig n with
  | nil => exact absurd e (dig_ne n)
  | cons x m =>
    have := dig_digit n x (by rw [e]; exact List.mem_cons_self)
    intro c
    have hx : x = 45 := by simpa using c
    rw [hx] at this
    exact absurd this.1 (by decide)
theorem evalZ_intD (x : Int) (h : in64 x) : evalZ (intD x) = x := by
  unfold intD in64 at *
  split
  · unfold evalZ
    rw [if_neg (dig_head _), evalN_dig _ (by omega)]
    omega
  · unfold evalZ
    rw [if_pos (show (45 :: dig (-x).toNat).head? = some 45 from rfl)]
    show - evalN (dig (-x).toNat) = x
    rw [evalN_dig _ (by omega)]
    omega
theorem length_intD (x : Int) (h : in64 x) : 1 ≤ (intD x).length ∧ (intD x).length ≤ 20 := by
  unfold intD in64 at *
  have h1 : ∀ n, 1 ≤ (dig n).length := fun n => List.length_pos_iff.2 (dig_ne n)
  split
  · exact ⟨h1 _, length_dig _⟩
  · have := length_dig_le 18 (-x).toNat (by omega) (by omega)
    have := h1 (-x).toNat
    simp
    omega
theorem intD_signs (x : Int) : ∀ b ∈ intD x, b = 45 ∨ 48 ≤ b.toNat ∧ b.toNat ≤ 57 := by
  intro b hb
  unfold intD at hb
  split at hb
  · exact .inr (dig_digit _ b hb)
  · rcases List.mem_cons.1 hb with e | e
    · exact .inl e
    · exact .inr (dig_digit _ b e)
/-- The whole number whose digits these are. -/
def numOf (l : List UInt8) : Option Int := if -9223372036854775808 ≤ evalZ l ∧ evalZ l ≤ 9223372036854775807 ∧ intD (evalZ l) = l then some (evalZ l) else none
theorem numOf_some {l : List UInt8} {x : Int} : numOf l = some x ↔ in64 x ∧ intD x = l := by
  unfold numOf
  constructor
  · intro h
    split at h
    · rename_i c
      injection h with h
      subst h
      exact ⟨⟨c.1, c.2.1⟩, c.2.2⟩
    · cases h
  · rintro ⟨hx, rfl⟩
    have := evalZ_intD x hx
    rw [if_pos (by rw [this]; exact ⟨hx.1, hx.2, rfl⟩), this]
theorem numOf_intD (x : Int) (h : in64 x) : numOf (intD x) = some x := numOf_some.2 ⟨h, rfl⟩
theorem numOf_none {l : List UInt8} : numOf l = none ↔ ∀ x, in64 x → intD x ≠ l := by
  constructor
  · intro h x hx c
    rw [← c, numOf_intD x hx] at h
    cases h
  · intro h
    cases c : numOf l with
    | none => rfl
    | some x => exact absurd (numOf_some.1 c).2 (h x (numOf_some.1 c).1)
theorem numOf_length {l : List UInt8} {x : Int} (h : numOf l = some x) : 1 ≤ l.length ∧ l.length ≤ 20 := by
  obtain ⟨h1, rfl⟩ := numOf_some.1 h
  exact length_intD x h1
end Go.Proofs.YtcpfhfdgfcilaaaGreatDoor.Val
