/-
  What types.Levels computes: its contract.
-/
import Derived.Test.YtjjfkgiecndmjaaRows
import Derived.Test.YtjjfkgiecndmjaaTree
import Derived.Test.YtjjfkgiecndmjaaOpen
import Derived.Test.YtjjfkgiecndmjaaMem
import Derived.Test.YtjjfkgiecndmjaaUp
import Derived.Test.YtjjfkgiecndmjaaWay
import Derived.Test.YtjjfkgiecndmjaaMay
import Derived.Test.YtjjfkgiecndmjaaPro
import Derived.WalkKit
import Derived.ProofKit
import Derived.OpenShut
import Derived.Below
import Derived.RegionTactic
import Derived.ChangeAlike
import Derived.OwnWalk
namespace Go.Proofs.Ytjjfkgiecndmjaa.Tree
open Go.ChangeShapes Go.WideShapes Go.ChangeAt Go.RowKit

theorem cellsN_at (p : List Nd) : ∀ i, i < p.length → (cellsN p)[i * 3]? = some (.int .i64 (nd p i).kind) ∧ (cellsN p)[i * 3 + 1]? = some (.int .i64 (nd p i).par) ∧ (cellsN p)[i * 3 + 2]? = some (.bool (nd p i).null) := by
  induction p with
  | nil => intro i hi; simp at hi
  | cons n p ih =>
    intro i hi
    cases i with
    | zero => exact ⟨rfl, rfl, rfl⟩
    | succ i =>
      have := ih i (by simpa using hi)
      have e : cellsN (n :: p) = .int .i64 n.kind :: .int .i64 n.par :: .bool n.null :: cellsN p := rfl
      rw [e, show (i + 1) * 3 = i * 3 + 3 from by omega]
      exact this
theorem length_cellsN (p : List Nd) : (cellsN p).length = p.length * 3 := by
  induction p with
  | nil => rfl
  | cons n p ih =>
    have e : cellsN (n :: p) = .int .i64 n.kind :: .int .i64 n.par :: .bool n.null :: cellsN p := rfl
    rw [e, List.length_cons, List.length_cons, List.length_cons, List.length_cons, ih]
    omega
theorem own_lies {w : World} {b c : Nat} {o : Option Addr} {p : List Nd} (h : w.ownsRow b 46 3 (.slice o p.length c) p.length (cellsN p)) : IsT w o p := by
  rcases h.2 with ⟨h0, h1⟩ | ⟨g, cap, cur, h0, _, _, hle, hm, _⟩
  · exact ⟨by rw [h1]; exact Nat.zero_le _, .inl (List.eq_nil_of_length_eq_zero h1)⟩
  · refine ⟨by omega, .inr ⟨⟨g, 0, none⟩, by injection h0, ?_⟩⟩
    injection h0 with h2 h3 h4
    subst h2 h4
    have hc : ∀ j u, (cellsN p)[j]? = some u → w.cell? ((⟨g, 0, none⟩ : Addr).add j) = some u := h.cells rfl
    exact ⟨fun i hi => hc _ _ (cellsN_at p i hi).1, fun i hi => hc _ _ (cellsN_at p i hi).2.1, fun i hi => hc _ _ (cellsN_at p i hi).2.2⟩
theorem take_snoc (p : List Nd) (k : Nat) (h : k < p.length) : p.take (k + 1) = p.take k ++ [nd p k] := by
  rw [List.take_succ_eq_append_getElem h]
  unfold nd
  rw [List.getD_eq_getElem?_getD, List.getElem?_eq_getElem h]
  rfl
theorem sumR_le (p : List Nd) : sumR p ≤ p.length := by
  induction p with
  | nil => exact Nat.le_refl _
  | cons n p ih => have := rep1_le n; simp [sumR]; omega
theorem sumN_le (p : List Nd) : sumN p ≤ p.length := by
  induction p with
  | nil => exact Nat.le_refl _
  | cons n p ih => have : nul1 n ≤ 1 := by { unfold nul1; split <;> omega }; simp [sumN]; omega
theorem step_R (p : List Nd) (k : Nat) (h : k < p.length) : sumR (p.take (k + 1)) = sumR (p.take k) + if (nd p k).kind = 3 then 1 else 0 := by
  rw [take_snoc p k h, sumR_app]; rfl
theorem step_N (p : List Nd) (k : Nat) (h : k < p.length) : sumN (p.take (k + 1)) = sumN (p.take k) + if (nd p k).null then 1 else 0 := by
  rw [take_snoc p k h, sumN_app]; rfl
theorem ret3_int {a b a' b' e : Int} (h : a = a') (h' : b = b') : Ending.returned (.tuple #[.int .i64 a, .int .i64 b, .int .i64 e]) = .returned (.tuple #[.int .i64 a', .int .i64 b', .int .i64 e]) := by rw [h, h']

set_option maxRecDepth 20000 in
set_option maxHeartbeats 800000 in
theorem levelsP (a : Option Addr) (cap : Nat) (l : List Nd) (i : Int) (w : World) (h : IsT w a l) :
    Calls Try.prog 14 #[.agg #[.slice a l.length cap], .int .i64 i] w fun r w' => r = .returned (.tuple #[.int .i64 (repA l i : Int), .int .i64 (dfnA l i : Int), .int .i64 (errA (hasB l i))]) ∧ Below w.heap.size w w' := by
  unfold repA dfnA errA
  have hb : Below w.heap.size w (w.alloc (Obj.cells #[.slice a l.length cap] 24)) := (Below.refl _ _).alloc (Nat.le_refl _) _
  have hc : (w.alloc (Obj.cells #[.slice a l.length cap] 24)).cell? ⟨w.heap.size, 0, none⟩ = some (.slice a l.length cap) := by simp
  cases hh : hasB l i
  · rw [if_neg (by simp), if_neg (by simp), if_neg (by simp)]
    have HH : Hid (hasB l i = false) := hh
    clear hh
    go_enter Try.func14, Try.ntmps14
    go_wp2_with fail
    refine (has a cap l i _ (h.later hb)).mono ?_
    rintro e w' ⟨rfl, hb'⟩
    rw [HH.out]
    go_wp2
    go_ret3
    exact ⟨rfl, bel hb hb'⟩
  · rw [if_pos rfl, if_pos rfl, if_pos rfl]
    obtain ⟨k, rfl, hk, hm⟩ := has_of hh
    rw [Int.toNat_natCast]
    have HH : Hid (hasB l k = true) := hh
    have HM : Hid (May l) := hm
    have h8 := hm.most
    clear hh hm
    obtain ⟨x, rfl, hl⟩ := h.some (by omega)
    go_enter Try.func14, Try.ntmps14
    go_wp2_with fail
    refine (has _ cap l k _ (h.later hb)).mono ?_
    rintro e w' ⟨rfl, hb'⟩
    rw [HH.out]
    have hc2 := cell_later hb' hc
    go_wp2_with fail
    refine (wayC x cap l h8 k hk _ (hl.later (bel hb hb')) (HM.out.up hk)).mono ?_
    rintro e w1 ⟨p, o, c, rfl, hown, hb3, hpl, hsr, hsd⟩
    have hp8 : p.length ≤ 8 := by
      have := (HM.out.up hk).depth_le k (Nat.le_refl _)
      omega
    obtain ⟨y, rfl, hly⟩ := (own_lies hown).some (by omega)
    have HR : Hid (sumR p = rep l k) := hsr
    have HD : Hid (sumR p + sumN p = dfn l k) := hsd
    have hbb : Below w.heap.size w w1 := bel (bel hb hb') hb3
    clear hsr hsd hown hb3 hpl hb hb' hc hc2 hl h HH hk
    go_wp2_with fail
    go_loopw [7, 8, 19] (fun u v t wr => ∃ j : Nat, j ≤ p.length ∧ t = .int .i64 (j : Int) ∧ u = .int .i64 (sumR (p.take j) : Int) ∧ v = .int .i64 (sumN (p.take j) : Int) ∧ Below w1.heap.size w1 wr) (fun _ _ t _ => p.length - (intOf t).toNat)
    case atStart => exact ⟨0, Nat.zero_le _, rfl, rfl, rfl, Below.refl _ _⟩
    case round =>
      obtain ⟨j, hj, rfl, rfl, rfl, hbl⟩ := hrel
      have hl2 := hly.later hbl
      have hr1 := sumR_le (p.take j)
      have hn1 := sumN_le (p.take j)
      have ht1 : (p.take j).length ≤ j := List.length_take_le _ _
      by_cases hlt : j < p.length
      · have hp := hl2.par' j (by omega)
        have hq := hl2.kind' j (by omega)
        have hr := hl2.null' j (by omega)
        have HSR : Hid (sumR (p.take (j + 1)) = sumR (p.take j) + if (nd p j).kind = 3 then 1 else 0) := step_R p j hlt
        have HSN : Hid (sumN (p.take (j + 1)) = sumN (p.take j) + if (nd p j).null then 1 else 0) := step_N p j hlt
        have hl3 : Hid (Lies w1 y p) := hly
        generalize nd p j = n at *
        generalize sumR (p.take j) = sr at *
        generalize sumN (p.take j) = sn at *
        clear hl2 hly
        cases hn : n.null
        all_goals
          rw [hn] at hr HSN
          by_cases hkd : n.kind = 3
          all_goals
            go_wp2
            go_roundw
            case rel => exact ⟨j + 1, by omega, by go_num, by rw [HSR.out]; simp [hkd], by rw [HSN.out]; simp, hbl.alloc hbl.size _⟩
            case measure => simp [intOf]; omega
      · obtain rfl : j = p.length := by omega
        rw [List.take_length] at *
        go_wp2
        go_ret3
        exact ⟨ret3_int (by rw [HR.out]) (by rw [← HD.out]; omega), bel hbb hbl⟩
end Go.Proofs.Ytjjfkgiecndmjaa.Tree
