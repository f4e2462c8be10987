/-
  For every row of ints, running sums filled up by pad.Add and pad.Up are told as long as they may be one: quiverlaw1.PadRow returns true. No condition.
-/
import Derived.Test.YtjgkhpkligodkaaRows
import Derived.Test.YtjgkhpkligodkaaPad
import Derived.WalkKit
import Derived.ProofKit
import Derived.OpenShut
import Derived.ShutString
import Derived.ChangeOld
import Derived.Below
namespace Go.Proofs.Ytjgkhpkligodkaa.padRow
open Go.ChangeShapes Go.WideShapes Go.ChangeAt Go.RowKit
open Go.ChangeMaps (open_string shut_string)
set_option linter.unusedVariables false

theorem own : ownKnob Try.prog.godebug = none := by kernel_rfl
theorem laidOut : laidOutB Try.prog = true := by kernel_rfl

def IsRow (k : IntKind) (w : World) (a : Option Addr) (len cap : Nat) (zs : List Int) : Prop :=
  (a = none ∧ len = 0 ∧ cap = 0 ∧ zs = []) ∨
  ∃ x, a = some x ∧ len ≤ cap ∧ cap ≤ maxLen ∧ zs.length = cap ∧ (∀ i, i < zs.length → w.cell? (x.add i) = some (.int k (zs.getD i 0))) ∧ ∀ n ∈ zs, (Lit.int k n).wf = true

theorem cell_later {w wx : World} {a : Addr} {v : Value} (hb : Below w.heap.size w wx) (h : w.cell? a = some v) : wx.cell? a = some v := (hb.cell (World.block_lt_of_cell? _ _ h)).trans h

theorem walk (a0 : Option Addr) (len0 cap0 : Nat) (z0 : List Int) (w : World) (w0 : IsRow .i64 w a0 len0 cap0 z0) :
    Calls Try.prog 7 #[.slice a0 len0 cap0] w fun e w' => e = .returned (.bool true) ∧ Below w.heap.size w w' := by
  by_cases hpos : 0 < len0
  · rcases w0 with ⟨rfl, rfl, rfl, rfl⟩ | ⟨x, rfl, hl, hm, hz, hcell, hwz⟩
    · omega
    · unfold maxLen at hm
      obtain ⟨b, off, rfl, hc⟩ := ints_at hcell (by omega)
      have HC : Hid (∀ i, i < z0.length → w.cell? ⟨b, off + i, none⟩ = some (.int .i64 (z0.getD i 0))) := hc
      clear hcell hwz hc
      go_enter Try.func7, Try.ntmps7
      go_wp2_with fail
      refine (Pad.awake _).mono ?_
      rintro e v1 ⟨rfl, b1⟩
      go_wp2_with fail
      go_loopw [3, 4] (fun s i wr => ∃ (k : Nat) (S : Int), k ≤ len0 ∧ 0 ≤ S ∧ S ≤ 1073741824 ∧ s = .int .i64 S ∧ i = .int .i64 k ∧ Below w.heap.size w wr) (fun _ i _ => len0 - (intOf i).toNat)
      case atStart => exact ⟨0, 0, Nat.zero_le _, by decide, by decide, rfl, rfl, b1⟩
      case round =>
        obtain ⟨k, S, hk, hS0, hS1, rfl, rfl, hb⟩ := hrel
        by_cases hlt' : k < len0
        · have hcl := cell_later hb (HC.out k (by omega))
          generalize z0.getD k 0 = z at *
          have hd : bits .and .i64 z 1048575 = z % 1048576 := Plain.and20 z
          have h0 : 0 ≤ z % 1048576 := by omega
          have h1 : z % 1048576 < 1048576 := by omega
          generalize z % 1048576 = d at *
          go_wp2_with fail
          refine (Pad.add_yes _ hS0 h0 (by omega)).mono ?_
          rintro e v2 ⟨rfl, b2⟩
          go_wp2_with fail
          refine (Pad.up_yes _ (by omega) (by omega)).mono ?_
          rintro e v3 ⟨rfl, b3⟩
          obtain ⟨f1, f2, f3⟩ := Pad.upN_facts (S + d)
          generalize Pad.upN (S + d) = u at *
          have g1 : ((u % 8) != 0) = false := by simp [f1]
          clear f1
          have hb' : Below w.heap.size w v3 := Pad.bel hb (Pad.bel b2 b3)
          clear hcl
          by_cases hu : 1073741824 < u
          · go_wp2_with (go_at_call 14; refine (Pad.num _ _).mono ?_; rintro e w' ⟨rfl, rfl⟩)
            go_ret
            exact ⟨rfl, hb'⟩
          · go_wp2_with (go_at_call 14; refine (Pad.num _ _).mono ?_; rintro e w' ⟨rfl, rfl⟩)
            go_roundw
            case rel => exact ⟨k + 1, u, by omega, by omega, by omega, rfl, by go_num, hb'⟩
            case measure => simp [intOf]; omega
        · go_wp2
          go_ret
          exact ⟨rfl, hb⟩
  · obtain rfl : len0 = 0 := by omega
    go_enter Try.func7, Try.ntmps7
    go_wp2_with fail
    refine (Pad.awake _).mono ?_
    rintro e v1 ⟨rfl, b1⟩
    go_wp2_with fail
    go_loopw [3, 4] (fun s i wr => s = .int .i64 0 ∧ i = .int .i64 0 ∧ Below w.heap.size w wr) (fun _ _ _ => 0)
    case atStart => exact ⟨rfl, rfl, b1⟩
    case round =>
      obtain ⟨rfl, rfl, hb⟩ := hrel
      go_wp2
      go_ret
      exact ⟨rfl, hb⟩

set_option maxRecDepth 100000 in
theorem lifted (os : Os) (started : os.Started) (H : Type) (enc : TypeId × Value → H) :
    ReturnsInHanded {} Try.checked os 7 .any (Rows.padRowSpec.pre6 enc Try.prog Try.f7 Rows.padRowRow.domain false) (Rows.padRowSpec.post enc Try.prog Try.f7 false true false false) := by
  refine returnsInHanded_of_change (C := Try.checked) own started (by kernel_rfl) Try.func7
    (ChangeSpec.witness6 (enc := enc) (C := Try.checked) false ⟨#[], #[.slice none 0 0], []⟩ 8 (by kernel_rfl) (by kernel_rfl) (by kernel_rfl) (by kernel_rfl)) ?_
  intro W base args ds gs before hval0 hW hcnd _
  have hval : ∀ (j : Nat) t v, Try.f7.params[j]? = some t → args[j]? = some v → Value.okWide Try.prog W .any base t v := hval0
  have hW' := hW
  obtain ⟨p, q, hA0, hV, rfl, hfz, hnd⟩ := hW
  have hA : DataW.TrodAll enc Try.prog W 0 (fun _ => true) true Try.f7.params.toList args.toList ds p := hA0
  rw [Try.params7] at hA hval
  obtain ⟨v0, vs0, d0, ds0, p0, q0, hargs, rfl, rfl, h0, r0⟩ := trodAll_cons hA
  obtain ⟨rfl, rfl, rfl⟩ := trodAll_nil r0
  obtain rfl : args = #[v0] := by cases args; simp_all
  obtain ⟨rfl, rfl⟩ := trodVars_none hV
  obtain ⟨a0, len0, cap0, rfl⟩ := okWide_slice Try.underlying33 (hval 0 33 v0 rfl rfl)
  have k0 := h0
  have lt0 : ∀ x ∈ p0, x.block < W.heap.size := by obtain ⟨m, hm⟩ := k0; exact DataW.trod_lt m _ _ _ hm
  obtain ⟨z0, w0⟩ : ∃ zs, IsRow .i64 W a0 len0 cap0 zs := by
    obtain ⟨fuel, hf⟩ := h0
    rcases open_ints Try.underlying33 Try.underlying3 (by kernel_rfl) hf with ⟨hcs, _⟩ | ⟨x, l, c, zs, hcs, _, hl, hm, hz, _, hcell, hwz⟩
    · simp [Value.cells] at hcs
      obtain ⟨rfl, rfl, rfl⟩ := hcs
      exact ⟨[], .inl ⟨rfl, rfl, rfl, rfl⟩⟩
    · simp [Value.cells] at hcs
      obtain ⟨rfl, rfl, rfl⟩ := hcs
      exact ⟨zs, .inr ⟨_, rfl, hl, hm, by simpa using hz, hcell, hwz⟩⟩
  clear hA0 hval0
  refine (walk a0 len0 cap0 z0 W w0).mono fun e W' ⟨he, bel⟩ => ?_
  subst he
  exact ⟨_, rfl, _, _, _, [], _, [], hW', trodAll_mk1 (shut_bool Try.underlying4 _), (trodAll_cons_mk (Below.trod laidOut (by kernel_rfl) (of_decide_eq_true (by kernel_rfl)) k0 bel lt0) trodAll_mk0), rfl, bel.frame _, fun h => by cases h⟩

theorem over : Rows.padRowRow.holds Try.pinned (OpenSpec.ofChange Rows.padRowSpec) :=
  OpenClaim.holds_of_wide 7 Try.f7 rfl rfl rfl rfl rfl rfl rfl ⟨rfl, rfl, rfl, rfl, rfl⟩ rfl rfl rfl rfl rfl (by kernel_rfl) Try.func7 (by kernel_rfl)
    (of_decide_eq_true (by kernel_rfl)) (by unfold Func.isWrapper; first | (rw [if_pos (by decide +kernel)]; kernel_rfl) | (rw [if_neg (by decide +kernel)]; exact ⟨rfl, rfl⟩))
    (fun os started H enc _ => lifted os started H enc)

end Go.Proofs.Ytjgkhpkligodkaa.padRow
namespace Go.Proofs.Ytjgkhpkligodkaa
theorem padRow_holds : Rows.PadRowSaid := padRow.over
#print axioms padRow_holds
end Go.Proofs.Ytjgkhpkligodkaa
