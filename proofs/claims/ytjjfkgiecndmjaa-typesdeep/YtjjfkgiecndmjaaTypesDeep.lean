/-
  TypesDeep: lists within lists may be as deep as told, not deeper.
-/
import Derived.Test.YtjjfkgiecndmjaaRows
import Derived.WalkKit
import Derived.ProofKit
import Derived.OpenShut
import Derived.ShutString
import Derived.ChangeOld
import Derived.Below
import Derived.Deep.QuietTactic
import Derived.WalkSmall
import Derived.BigQuiet
import Derived.Deep.RegionWith
import Derived.OwnWalk
import Derived.RegionTactic
import Derived.ChangeAlike
import Derived.SizedLaws
import Derived.Test.YtjjfkgiecndmjaaTree
import Derived.Test.YtjjfkgiecndmjaaOpen
import Derived.Test.YtjjfkgiecndmjaaMem
import Derived.Test.YtjjfkgiecndmjaaUp
import Derived.Test.YtjjfkgiecndmjaaWay
import Derived.Test.YtjjfkgiecndmjaaMay
import Derived.Test.YtjjfkgiecndmjaaPro
import Derived.Test.YtjjfkgiecndmjaaLev
import Derived.Test.YtjjfkgiecndmjaaHelp
import Derived.Test.YtjjfkgiecndmjaaCopy
import Derived.Test.YtjjfkgiecndmjaaAwake
import Derived.Test.YtjjfkgiecndmjaaMask
namespace Go.Proofs.Ytjjfkgiecndmjaa.typesDeep
open Go.ChangeShapes Go.WideShapes Go.ChangeAt Go.RowKit
open Go.ChangeMaps (open_string shut_string)
set_option linter.unusedVariables false

theorem own : ownKnob Try.prog.godebug = none := by kernel_rfl

open Tree
/-- So many lists, each within the one ahead of it. -/
def deepTo (b : Bool) : Nat → List Nd
  | 0 => []
  | j + 1 => deepTo b j ++ [⟨3, (j : Int) - 1, b⟩]
def deepL (b : Bool) (k : Nat) : List Nd := deepTo b k ++ [⟨0, (k : Int) - 1, b⟩]
theorem length_deepTo (b : Bool) (j : Nat) : (deepTo b j).length = j := by
  induction j with
  | zero => rfl
  | succ j ih => rw [deepTo, List.length_append, ih]; rfl
theorem length_deepL (b : Bool) (k : Nat) : (deepL b k).length = k + 1 := by rw [deepL, List.length_append, length_deepTo]; rfl
theorem deep_yes (b : Bool) (k : Nat) (hk : k ≤ 4) : may (deepL b k) = true ∧ hasB (deepL b k) k = true ∧ repA (deepL b k) k = k ∧ dfnA (deepL b k) k = if b then 2 * k + 1 else k := by
  match k, hk with
  | 0, _ => cases b <;> decide
  | 1, _ => cases b <;> decide
  | 2, _ => cases b <;> decide
  | 3, _ => cases b <;> decide
  | 4, _ => cases b <;> decide
theorem deep_no (b : Bool) (k : Nat) (hk : 4 < k) (h8 : k < 8) : may (deepL b k) = false ∧ hasB (deepL b k) k = false := by
  match k, hk, h8 with
  | 5, _, _ => cases b <;> decide
  | 6, _, _ => cases b <;> decide
  | 7, _, _ => cases b <;> decide
theorem lvlY (o : Option Addr) (c : Nat) (b : Bool) (k : Nat) (hk : k ≤ 4) (w : World) (h : IsT w o (deepL b k)) :
    Calls Try.prog 14 #[.agg #[.slice o (k + 1) c], .int .i64 (k : Int)] w fun r w' => r = .returned (.tuple #[.int .i64 (k : Int), .int .i64 ((if b then 2 * k + 1 else k : Nat) : Int), .int .i64 0]) ∧ Below w.heap.size w w' := by
  obtain ⟨_, h2, h3, h4⟩ := deep_yes b k hk
  have := levelsP o c (deepL b k) k w h
  rw [length_deepL, h2, h3, h4] at this
  exact this
theorem lvlN (o : Option Addr) (c : Nat) (b : Bool) (k : Nat) (hk : 4 < k) (h8 : k < 8) (w : World) (h : IsT w o (deepL b k)) :
    Calls Try.prog 14 #[.agg #[.slice o (k + 1) c], .int .i64 (k : Int)] w fun r w' => ∃ x y, r = .returned (.tuple #[.int .i64 x, .int .i64 y, .int .i64 500]) ∧ Below w.heap.size w w' := by
  obtain ⟨_, h2⟩ := deep_no b k hk h8
  have := levelsP o c (deepL b k) k w h
  rw [length_deepL, h2] at this
  refine this.mono ?_
  rintro e w' ⟨rfl, hb⟩
  exact ⟨_, _, rfl, hb⟩
theorem mayD (o : Option Addr) (c : Nat) (b : Bool) (k : Nat) (m : Bool) (hm : may (deepL b k) = m) (w : World) (h : IsT w o (deepL b k)) :
    Calls Try.prog 18 #[.agg #[.slice o (k + 1) c]] w fun r w' => r = .returned (.bool m) ∧ Below w.heap.size w w' := by
  have := mayC o c (deepL b k) w h
  rw [length_deepL, hm] at this
  exact this
theorem own_liesL {w : World} {b c L : Nat} {o : Option Addr} {p : List Nd} (h : w.ownsRow b 46 3 (.slice o L c) L (cellsN p)) (hL : L = p.length) : IsT w o p := by
  subst hL
  exact own_lies h
set_option maxRecDepth 20000 in
set_option maxHeartbeats 4000000 in
theorem walk (a0 : Int) (a1 : Bool) (w : World) (w0 : (Lit.int .i64 a0).wf = true) :
    Calls Try.prog 6 #[.int .i64 a0, .bool a1] w fun e w' => e = .returned (.bool true) ∧ Below w.heap.size w w' := by
  obtain ⟨i46, hi, hz0, hz1, hz2⟩ := info_parts info46
  obtain ⟨k, hk, hk8⟩ := and3 a0
  go_enter Try.func6, Try.ntmps6
  go_wp2_with fail
  refine (awake w).mono ?_
  rintro e w1 ⟨rfl, hb1⟩
  go_wp2_with fail
  obtain ⟨wb, eb, hsb, hcb, hbb⟩ := boxed w1 (.slice none 0 0) 24
  have hfb : wb.frozen? ⟨w1.heap.size, 0, none⟩ = false := by rw [← eb]; simp
  rw [eb]
  clear eb hk
  generalize hbn : w1.heap.size = b at *
  have HBN : Hid (w1.heap.size = b) := hbn
  clear hbn
  go_loopw [7] (fun t wr => ∃ (j : Nat) (o : Option Addr) (c : Nat), j ≤ k ∧ t = .int .i64 (j : Int) ∧ wr.cell? ⟨b, 0, none⟩ = some (.slice o j c) ∧ wr.frozen? ⟨b, 0, none⟩ = false ∧ wr.ownsRow (b + 1) 46 3 (.slice o j c) j (cellsN (deepTo a1 j)) ∧ Below b w1 wr) (fun t _ => k - (intOf t).toNat)
  case atStart => exact ⟨0, none, 0, Nat.zero_le _, rfl, hcb, hfb, World.ownsRow_nil _ _ _ _, hbb⟩
  case round =>
    obtain ⟨j, o, c, hj, rfl, hc, hf, hown, hbl⟩ := hrel
    have hsz : b + 1 ≤ wr.heap.size := World.block_lt_of_cell? _ _ hc
    clear hcb hfb hbb
    by_cases hlt : j < k
    · go_wp2_with (at_builtin; refine wpList_append_own _ rfl (.tmp 23) (.tmp 28) 22 rfl (b + 1) 46 i46 (.agg #[.int .i64 0, .int .i64 0, .bool false]) 3 24 Try.underlying22 hi hz0 hz1 hz2 rfl (by decide) _ j _ rfl (hown.alloc _) ⟨wr.heap.size, 0, none⟩ 1 1 [.int .i64 3, .int .i64 ((j : Int) - 1), .bool a1] rfl rfl ?c1 ?c2 ?c3 ?c4 ?c5 ?_)
      case c1 =>
        intro i u hi
        match i, hi with
        | 0, hi => simp at hi; subst hi; simp [Addr.add]
        | 1, hi => simp at hi; subst hi; simp [Addr.add]
        | 2, hi => simp at hi; subst hi; simp [Addr.add]
      case c2 => intro u hu; simp at hu; rcases hu with rfl | rfl | rfl <;> rfl
      case c3 => unfold maxLen; omega
      case c4 => omega
      case c5 => simp; omega
      intro v' w3 hown' hgrow _
      have hb3 : Below (b + 1) wr w3 := ((Below.refl _ _).alloc hsz _).grown hgrow (by simp; omega) (fun i hi => (hown.lt i hi).1)
      have hown3 : w3.ownsRow (b + 1) 46 3 v' (j + 1) (cellsN (deepTo a1 (j + 1))) := by
        rw [deepTo, cellsN_snoc]
        exact hown'
      obtain ⟨o3, c3, rfl⟩ := own_slice hown3
      have hc3 : w3.cell? ⟨b, 0, none⟩ = some (.slice o j c) := (hb3.cell (p := ⟨b, 0, none⟩) (Nat.lt_succ_self _)).trans hc
      have hf3 : w3.frozen? ⟨b, 0, none⟩ = false := (hb3.frozen (p := ⟨b, 0, none⟩) (Nat.lt_succ_self _)).trans hf
      have hB3 : Below b w1 w3 := hbl.trans (hb3.mono (Nat.le_succ _))
      clear hown hgrow hown' hc hf hb3 hbl
      go_wp2
      go_roundw
      case rel => exact ⟨j + 1, o3, c3, by omega, by go_num, World.cell?_setCell_same _ _ _ hc3, by rw [World.frozen?_setCell]; exact hf3, ownsRow_setCell_below hown3 (Nat.lt_succ_self _) _, hB3.setCell (Nat.le_refl _) _⟩
      case measure => simp [intOf]; omega
    · obtain rfl : j = k := by omega
      go_wp2_with (at_builtin; refine wpList_append_own _ rfl (.tmp 32) (.tmp 37) 22 rfl (b + 1) 46 i46 (.agg #[.int .i64 0, .int .i64 0, .bool false]) 3 24 Try.underlying22 hi hz0 hz1 hz2 rfl (by decide) _ j _ rfl (hown.alloc _) ⟨wr.heap.size, 0, none⟩ 1 1 [.int .i64 0, .int .i64 ((j : Int) - 1), .bool a1] rfl rfl ?c1 ?c2 ?c3 ?c4 ?c5 ?_)
      case c1 =>
        intro i u hi
        match i, hi with
        | 0, hi => simp at hi; subst hi; simp [Addr.add]
        | 1, hi => simp at hi; subst hi; simp [Addr.add]
        | 2, hi => simp at hi; subst hi; simp [Addr.add]
      case c2 => intro u hu; simp at hu; rcases hu with rfl | rfl | rfl <;> rfl
      case c3 => unfold maxLen; omega
      case c4 => omega
      case c5 => simp; omega
      intro v' w3 hown' hgrow _
      have hb3 : Below (b + 1) wr w3 := ((Below.refl _ _).alloc hsz _).grown hgrow (by simp; omega) (fun i hi => (hown.lt i hi).1)
      have hown3 : w3.ownsRow (b + 1) 46 3 v' (j + 1) (cellsN (deepL a1 j)) := by
        rw [deepL, cellsN_snoc]
        exact hown'
      obtain ⟨o3, c3, rfl⟩ := own_slice hown3
      have hc3 : w3.cell? ⟨b, 0, none⟩ = some (.slice o j c) := (hb3.cell (p := ⟨b, 0, none⟩) (Nat.lt_succ_self _)).trans hc
      have hf3 : w3.frozen? ⟨b, 0, none⟩ = false := (hb3.frozen (p := ⟨b, 0, none⟩) (Nat.lt_succ_self _)).trans hf
      have hB3 : Below b w1 w3 := hbl.trans (hb3.mono (Nat.le_succ _))
      have hc4 := World.cell?_setCell_same w3 ⟨b, 0, none⟩ (.slice o3 (j + 1) c3) hc3
      have hown4 : (w3.setCell ⟨b, 0, none⟩ (.slice o3 (j + 1) c3)).ownsRow (b + 1) 46 3 (.slice o3 (j + 1) c3) (j + 1) (cellsN (deepL a1 j)) := ownsRow_setCell_below hown3 (Nat.lt_succ_self _) _
      have hB4 : Below b w1 (w3.setCell ⟨b, 0, none⟩ (.slice o3 (j + 1) c3)) := hB3.setCell (Nat.le_refl _) _
      have hB4 := hb1.trans (hB4.mono (by rw [← HBN.out]; exact hb1.size))
      have hT4 := own_liesL hown4 (length_deepL a1 j).symm
      have HT4 : Hid (IsT (w3.setCell ⟨b, 0, none⟩ (.slice o3 (j + 1) c3)) o3 (deepL a1 j)) := hT4
      clear hown hgrow hown' hc hf hb3 hbl hown4 hT4 hb1 hB3 hown3
      by_cases h4 : 4 < j
      · have HN : Hid (may (deepL a1 j) = false) := (deep_no a1 j h4 hk8).1
        go_wp2_with fail
        refine (lvlN o3 c3 a1 j h4 hk8 _ HT4.out).mono ?_
        rintro e w5 ⟨x, y, rfl, hb5⟩
        have hc5 := cell_later hb5 hc4
        have hT5 := HT4.out.later hb5
        have HT5 : Hid (IsT w5 o3 (deepL a1 j)) := hT5
        have hB5 := bel hB4 hb5
        clear hc4 HT4 hb5 hB4 hc3 hf3 hT5
        go_wp2_with fail
        refine (mayD o3 c3 a1 j false HN.out w5 HT5.out).mono ?_
        rintro e w6 ⟨rfl, hb6⟩
        go_wp2_with fail
        refine (num _ _).mono ?_
        rintro e w7 ⟨rfl, rfl⟩
        go_wp2
        go_ret
        exact ⟨rfl, bel hB5 hb6⟩
      · have HN : Hid (may (deepL a1 j) = true) := (deep_yes a1 j (by omega)).1
        cases a1
        all_goals
          go_wp2_with fail
          refine (lvlY o3 c3 _ j (by omega) _ HT4.out).mono ?_
          rintro e w5 ⟨rfl, hb5⟩
          simp only [if_true, if_false, Bool.false_eq_true]
          have hc5 := cell_later hb5 hc4
          have hT5 := HT4.out.later hb5
          have HT5 : Hid (IsT w5 o3 (deepL _ j)) := hT5
          have hB5 := bel hB4 hb5
          clear hc4 HT4 hb5 hB4 hc3 hf3 hT5
          go_wp2_with fail
          refine (mayD o3 c3 _ j true HN.out w5 HT5.out).mono ?_
          rintro e w6 ⟨rfl, hb6⟩
          go_wp2_with fail
          refine (num _ _).mono ?_
          rintro e w7 ⟨rfl, rfl⟩
          go_wp2
          go_ret
          exact ⟨rfl, bel hB5 hb6⟩

set_option maxRecDepth 100000 in
theorem lifted (os : Os) (started : os.Started) (H : Type) (enc : TypeId × Value → H) :
    ReturnsInHanded {} Try.checked os 6 .any (Rows.typesDeepSpec.pre6 enc Try.prog Try.f6 Rows.typesDeepRow.domain false) (Rows.typesDeepSpec.post enc Try.prog Try.f6 false true false false) := by
  refine returnsInHanded_of_change (C := Try.checked) own started (by kernel_rfl) Try.func6
    (ChangeSpec.witness6 (enc := enc) (C := Try.checked) false ⟨#[], #[.int .i64 0, .bool false], []⟩ 8 (by kernel_rfl) (by kernel_rfl) (by kernel_rfl) (by kernel_rfl)) ?_
  intro W base args ds gs before hval0 hW hcnd _
  have hval : ∀ (j : Nat) t v, Try.f6.params[j]? = some t → args[j]? = some v → Value.okWide Try.prog W .any base t v := hval0
  have hW' := hW
  obtain ⟨p, q, hA0, hV, rfl, hfz, hnd⟩ := hW
  have hA : DataW.TrodAll enc Try.prog W 0 (fun _ => true) true Try.f6.params.toList args.toList ds p := hA0
  rw [Try.params6] at hA hval
  obtain ⟨v0, vs0, d0, ds0, p0, q0, hargs, rfl, rfl, h0, r0⟩ := trodAll_cons hA
  obtain ⟨v1, vs1, d1, ds1, p1, q1, rfl, rfl, rfl, h1, r1⟩ := trodAll_cons r0
  obtain ⟨rfl, rfl, rfl⟩ := trodAll_nil r1
  obtain rfl : args = #[v0, v1] := by cases args; simp_all
  obtain ⟨rfl, rfl⟩ := trodVars_none hV
  obtain ⟨a0, rfl, rfl, rfl, w0⟩ := open_int Try.underlying3 (hval 0 3 v0 rfl rfl) h0
  obtain ⟨a1, rfl, rfl, rfl⟩ := open_bool Try.underlying4 (hval 1 4 v1 rfl rfl) h1
  clear hA0 hval0
  refine (walk a0 a1 W w0).mono fun e W' ⟨he, bel⟩ => ?_
  subst he
  exact ⟨_, rfl, _, _, _, [], _, [], hW', trodAll_mk1 (shut_bool Try.underlying4 _), (trodAll_cons_mk (shut_int Try.underlying3 w0) (trodAll_cons_mk (shut_bool Try.underlying4 _) trodAll_mk0)), rfl, bel.frame _, fun h => by cases h⟩

theorem over : Rows.typesDeepRow.holds Try.pinned (OpenSpec.ofChange Rows.typesDeepSpec) :=
  OpenClaim.holds_of_wide 6 Try.f6 rfl rfl rfl rfl rfl rfl rfl ⟨rfl, rfl, rfl, rfl, rfl⟩ rfl rfl rfl rfl rfl (by kernel_rfl) Try.func6 (by kernel_rfl)
    (of_decide_eq_true (by kernel_rfl)) (by unfold Func.isWrapper; first | (rw [if_pos (by decide +kernel)]; kernel_rfl) | (rw [if_neg (by decide +kernel)]; exact ⟨rfl, rfl⟩))
    (fun os started H enc _ => lifted os started H enc)

end Go.Proofs.Ytjjfkgiecndmjaa.typesDeep
namespace Go.Proofs.Ytjjfkgiecndmjaa
theorem typesDeep_holds : Rows.TypesDeepSaid := typesDeep.over
#print axioms typesDeep_holds
end Go.Proofs.Ytjjfkgiecndmjaa
