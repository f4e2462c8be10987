/-
  For every slice of ints, the numbers that their lowest 31 bits tell, laid down one behind the other in few bytes, are taken one behind the other: quiverlaw3.NumRow returns true.
-/
import Derived.Test.YtlbchabmjegobaaRows
import Derived.WalkKit
import Derived.ProofKit
import Derived.OpenShut
import Derived.ShutString
import Derived.ChangeOld
import Derived.Below
import Derived.SizedLaws
import Derived.Test.YtlbchabmjegobaaPlain
import Derived.Test.YtlbchabmjegobaaAwake
namespace Go.Proofs.Ytlbchabmjegobaa.numRow
open Go.ChangeShapes Go.WideShapes Go.ChangeAt Go.RowKit
open Go.ChangeMaps (open_string shut_string)
set_option linter.unusedVariables false

theorem own : ownKnob Try.prog.godebug = none := by kernel_rfl
theorem laidOut : laidOutB Try.prog = true := by kernel_rfl

def IsRow (k : IntKind) (w : World) (a : Option Addr) (len cap : Nat) (zs : List Int) : Prop :=
  (a = none ∧ len = 0 ∧ cap = 0 ∧ zs = []) ∨
  ∃ x, a = some x ∧ len ≤ cap ∧ cap ≤ maxLen ∧ zs.length = cap ∧ (∀ i, i < zs.length → w.cell? (x.add i) = some (.int k (zs.getD i 0))) ∧ ∀ n ∈ zs, (Lit.int k n).wf = true

/-- The number that the lowest 31 bits of an int tell. -/
def low31 (x : Int) : Nat := (x % 2147483648).toNat
theorem low31_le (x : Int) : low31 x ≤ 2147483647 := by unfold low31; omega
theorem mask31 (x : Int) : bits .and .i64 x 2147483647 = (low31 x : Int) := by rw [Plain.and31]; unfold low31; omega
/-- The bytes of the first k numbers, one behind the other. -/
def cat (z : List Int) : Nat → List UInt8
  | 0 => []
  | k + 1 => cat z k ++ Plain.vb (low31 (z.getD k 0))
theorem cat_len (z : List Int) (k : Nat) : (cat z k).length ≤ 5 * k := by
  induction k with
  | zero => simp [cat]
  | succ k ih =>
    have := Plain.vb_len 4 (low31 (z.getD k 0)) (by have := low31_le (z.getD k 0); omega)
    rw [cat, List.length_append]; omega
theorem cat_more (z : List Int) (k d : Nat) : ∃ r, cat z (k + d) = cat z k ++ r := by
  induction d with
  | zero => exact ⟨[], by simp⟩
  | succ d ih =>
    obtain ⟨r, hr⟩ := ih
    exact ⟨r ++ Plain.vb (low31 (z.getD (k + d) 0)), by rw [← Nat.add_assoc, cat, hr, List.append_assoc]⟩
theorem cat_drop (z : List Int) (k n : Nat) (h : k < n) : ∃ r, (cat z n).drop (cat z k).length = Plain.vb (low31 (z.getD k 0)) ++ r := by
  obtain ⟨r, hr⟩ := cat_more z (k + 1) (n - (k + 1))
  rw [show k + 1 + (n - (k + 1)) = n from by omega, cat, List.append_assoc] at hr
  exact ⟨r, by rw [hr, List.drop_left]⟩
theorem app_mk (a b : List UInt8) : ByteArray.mk a.toArray ++ ByteArray.mk b.toArray = ByteArray.mk (a ++ b).toArray := by
  apply ByteArray.ext
  simp
theorem cell_later {w wx : World} {a : Addr} {v : Value} (hb : Below w.heap.size w wx) (h : w.cell? a = some v) : wx.cell? a = some v := (hb.cell (World.block_lt_of_cell? _ _ h)).trans h
theorem size_mk (l : List UInt8) : (ByteArray.mk l.toArray).size = l.length := by simp [ByteArray.size]
/-- One number out of the row. -/
theorem getOne (z : List Int) (k n : Nat) (h : k < n) (hn : n ≤ 17592186044416) (w : World) :
    Calls Try.prog 14 #[.string ⟨(cat z n).toArray⟩, .int .i64 ((cat z k).length : Int)] w fun r w' => r = .returned (.tuple #[.int .i64 (low31 (z.getD k 0) : Int), .int .i64 ((cat z (k + 1)).length : Int), .int .i64 0]) ∧ w' = w := by
  obtain ⟨r, hr⟩ := cat_drop z k n h
  have hg := Plain.gv_vb (cat z n) r (cat z k).length (low31 (z.getD k 0)) hr (low31_le _)
  have hl : (cat z k).length + (Plain.vb (low31 (z.getD k 0))).length = (cat z (k + 1)).length := by rw [cat, List.length_append]
  rw [hl] at hg
  have h1 := cat_len z n
  have h2 : (cat z k).length < (cat z n).length := by
    have := congrArg List.length hr
    rw [List.length_drop, List.length_append] at this
    have := Plain.vb_some (low31 (z.getD k 0))
    omega
  exact Fix.getVar_in ⟨(cat z n).toArray⟩ (cat z k).length _ _ _ w (by rw [size_mk]; omega) (by rw [size_mk]; omega) hg

set_option maxRecDepth 20000 in
set_option maxHeartbeats 4000000 in
theorem walk (a0 : Option Addr) (len0 cap0 : Nat) (z0 : List Int) (w : World) (w0 : IsRow .i64 w a0 len0 cap0 z0) (s0 : cap0 * 8 ≤ 140737488351232) :
    Calls Try.prog 6 #[.slice a0 len0 cap0] w fun e w' => e = .returned (.bool true) ∧ Below w.heap.size w w' := by
  by_cases hpos : 0 < len0
  · rcases w0 with ⟨rfl, rfl, rfl, rfl⟩ | ⟨x, rfl, hl, hm, hz, hcell, hwz⟩
    · omega
    · unfold maxLen at hm
      obtain ⟨b, off, rfl, hc⟩ := ints_at hcell (by omega)
      have HC : Hid (∀ i, i < z0.length → w.cell? ⟨b, off + i, none⟩ = some (.int .i64 (z0.getD i 0))) := hc
      clear hcell hwz hc
      go_enter Try.func6, Try.ntmps6
      go_wp2_with fail
      refine (Fix.awake _).mono ?_
      rintro e v1 ⟨rfl, b1⟩
      go_wp2_with fail
      go_loopw [3, 4] (fun s i wr => ∃ k : Nat, k ≤ len0 ∧ i = .int .i64 k ∧ s = .string ⟨(cat z0 k).toArray⟩ ∧ Below w.heap.size w wr) (fun _ i _ => len0 - (intOf i).toNat)
      case atStart => exact ⟨0, Nat.zero_le _, rfl, rfl, b1⟩
      case round =>
        obtain ⟨k, hk, rfl, rfl, hb⟩ := hrel
        have h5 := cat_len z0 k
        by_cases hlt' : k < len0
        · have hcl := cell_later hb (HC.out k (by omega))
          have hm31 := mask31 (z0.getD k 0)
          have hle := low31_le (z0.getD k 0)
          have HK : Hid (ByteArray.mk (cat z0 k).toArray ++ ByteArray.mk (Plain.vb (low31 (z0.getD k 0))).toArray = ByteArray.mk (cat z0 (k + 1)).toArray) := app_mk _ _
          have hv5 := Plain.vb_len 4 (low31 (z0.getD k 0)) (by omega)
          generalize low31 (z0.getD k 0) = m at *
          generalize z0.getD k 0 = z at *
          go_wp2_with fail
          refine (Fix.putVar_yes m _ hle).mono ?_
          rintro e v2 ⟨rfl, b2⟩
          have hb' : Below w.heap.size w v2 := Fix.bel hb b2
          clear hcl
          go_wp2_with (go_at_call 16; refine (Fix.num _ _).mono ?_; rintro e w' ⟨rfl, rfl⟩)
          go_roundw
          case rel => exact ⟨k + 1, by omega, by go_num, by rw [HK.out], hb'⟩
          case measure => simp [intOf]; omega
        · obtain rfl : k = len0 := by omega
          go_wp2_with fail
          go_loop [7, 8] (fun a i => ∃ j : Nat, j ≤ k ∧ i = .int .i64 j ∧ a = .int .i64 ((cat z0 j).length : Int)) (fun _ i => k - (intOf i).toNat)
          case atStart => exact ⟨0, Nat.zero_le _, rfl, rfl⟩
          case round =>
            obtain ⟨j, hj, rfl, rfl⟩ := hrel
            by_cases hjt : j < k
            · have hcl := cell_later hb (HC.out j (by omega))
              have hm31 := mask31 (z0.getD j 0)
              have hup : (cat z0 j).length < (cat z0 (j + 1)).length := by
                rw [cat, List.length_append]
                have := Plain.vb_some (low31 (z0.getD j 0))
                omega
              go_wp2_with fail
              refine (getOne z0 j k hjt (by omega) _).mono ?_
              rintro e v3 ⟨rfl, rfl⟩
              generalize low31 (z0.getD j 0) = m at *
              generalize z0.getD j 0 = z at *
              go_wp2_with (go_at_call 16; refine (Fix.num _ _).mono ?_; rintro e w' ⟨rfl, rfl⟩)
              go_round
              case rel => exact ⟨j + 1, by omega, by go_num, rfl⟩
              case measure => simp [intOf]; omega
            · obtain rfl : j = k := by omega
              go_wp2
              go_ret
              exact ⟨rfl, hb⟩
  · obtain rfl : len0 = 0 := by omega
    go_enter Try.func6, Try.ntmps6
    go_wp2_with fail
    refine (Fix.awake _).mono ?_
    rintro e v1 ⟨rfl, b1⟩
    go_wp2_with fail
    refine wp_loop_rounds 1 ?_
    rw [rounds_succ]
    go_wp2_with fail
    refine wp_loop_rounds 1 ?_
    rw [rounds_succ]
    go_wp2
    go_ret
    exact ⟨rfl, b1⟩

set_option maxRecDepth 100000 in
theorem lifted (os : Os) (started : os.Started) (H : Type) (enc : TypeId × Value → H) :
    ReturnsInHanded {} Try.checked os 6 .any (Rows.numRowSpec.pre6 enc Try.prog Try.f6 Rows.numRowRow.domain false) (Rows.numRowSpec.post enc Try.prog Try.f6 false true false false) := by
  refine returnsInHanded_of_change_sized (C := Try.checked) own started (by kernel_rfl) Try.func6
    (ChangeSpec.witness6 (enc := enc) (C := Try.checked) false ⟨#[], #[.slice none 0 0], []⟩ 8 (by kernel_rfl) (by kernel_rfl) (by kernel_rfl) (by kernel_rfl)) ?_
  intro W base args ds gs before hval0 hW hcnd hsz0 _
  have hsz : (DataW.weightsEach Try.prog (Try.f6.params.toList ++ Rows.numRowSpec.plain.varTypes Try.prog) (ds ++ gs)).all (· ≤ reachBytes) = true := hsz0
  clear hsz0
  have hval : ∀ (j : Nat) t v, Try.f6.params[j]? = some t → args[j]? = some v → Value.okWide Try.prog W .any base t v := hval0
  have hW' := hW
  obtain ⟨p, q, hA0, hV, rfl, hfz, hnd⟩ := hW
  have hA : DataW.TrodAll enc Try.prog W 0 (fun _ => true) true Try.f6.params.toList args.toList ds p := hA0
  rw [Try.params6] at hA hval hsz
  obtain ⟨v0, vs0, d0, ds0, p0, q0, hargs, rfl, rfl, h0, r0⟩ := trodAll_cons hA
  obtain ⟨rfl, rfl, rfl⟩ := trodAll_nil r0
  obtain rfl : args = #[v0] := by cases args; simp_all
  obtain ⟨rfl, rfl⟩ := trodVars_none hV
  obtain ⟨a0, len0, cap0, rfl⟩ := okWide_slice Try.underlying41 (hval 0 41 v0 rfl rfl)
  have k0 := h0
  have lt0 : ∀ x ∈ p0, x.block < W.heap.size := by obtain ⟨m, hm⟩ := k0; exact DataW.trod_lt m _ _ _ hm
  obtain ⟨z0, w0, s0⟩ : ∃ zs, IsRow .i64 W a0 len0 cap0 zs ∧ cap0 * 8 ≤ 140737488351232 := by
    obtain ⟨fuel, hf⟩ := h0
    rcases open_ints Try.underlying41 Try.underlying3 (by kernel_rfl) hf with ⟨hcs, _⟩ | ⟨x, l, c, zs, hcs, _, hl, hm, hz, hd, hcell, hwz⟩
    · simp [Value.cells] at hcs
      obtain ⟨rfl, rfl, rfl⟩ := hcs
      exact ⟨[], .inl ⟨rfl, rfl, rfl, rfl⟩, by decide⟩
    · simp [Value.cells] at hcs
      obtain ⟨rfl, rfl, rfl⟩ := hcs
      have hq : d0 = _ := (Prod.mk.inj hd).1
      have := sized_slice hsz (j := 0) (t := 41) rfl (congrArg some hq) Try.underlying41
      simp only [ChangeShapes.lits, List.length_map, List.length_take, List.length_drop] at this
      rw [show Try.prog.bytesOf 3 = 8 from by kernel_rfl] at this
      simp only [if_true] at hz
      unfold reachBytes at this
      exact ⟨zs, .inr ⟨_, rfl, hl, hm, hz, hcell, hwz⟩, by rw [Nat.min_eq_left (by omega)] at this; omega⟩
  clear hA0 hval0
  refine (walk a0 len0 cap0 z0 W w0 s0).mono fun e W' ⟨he, bel⟩ => ?_
  subst he
  exact ⟨_, rfl, _, _, _, [], _, [], hW', trodAll_mk1 (shut_bool Try.underlying4 _), (trodAll_cons_mk (Below.trod laidOut (by kernel_rfl) (of_decide_eq_true (by kernel_rfl)) k0 bel lt0) trodAll_mk0), rfl, bel.frame _, fun h => by cases h⟩

theorem over : Rows.numRowRow.holds Try.pinned (OpenSpec.ofChange Rows.numRowSpec) :=
  OpenClaim.holds_of_wide 6 Try.f6 rfl rfl rfl rfl rfl rfl rfl ⟨rfl, rfl, rfl, rfl, rfl⟩ rfl rfl rfl rfl rfl (by kernel_rfl) Try.func6 (by kernel_rfl)
    (of_decide_eq_true (by kernel_rfl)) (by unfold Func.isWrapper; first | (rw [if_pos (by decide +kernel)]; kernel_rfl) | (rw [if_neg (by decide +kernel)]; exact ⟨rfl, rfl⟩))
    (fun os started H enc _ => lifted os started H enc)

end Go.Proofs.Ytlbchabmjegobaa.numRow
namespace Go.Proofs.Ytlbchabmjegobaa
theorem numRow_holds : Rows.NumRowSaid := numRow.over
#print axioms numRow_holds
end Go.Proofs.Ytlbchabmjegobaa
