/-
  For every text and every two ints: of a text of 4 to 300 bytes a turned stretch of at most 32 bits is told by the sum: quiverlaw4.CrcBurst returns true. No condition.
-/
import Derived.Test.YtnfneaalkjnnfaaRows
import Derived.WalkKit
import Derived.ProofKit
import Derived.OpenShut
import Derived.ShutString
import Derived.ChangeOld
import Derived.Below
import Derived.Deep.QuietTactic
import Derived.WalkSmall
import Derived.BigQuiet
import Derived.Laws.Cover1
import Derived.SizedLaws
import Derived.Test.YtnfneaalkjnnfaaPlain
import Derived.Test.YtnfneaalkjnnfaaSum
import Derived.Test.YtnfneaalkjnnfaaMem
namespace Go.Proofs.Ytnfneaalkjnnfaa.crcBurst
open Go.ChangeShapes Go.WideShapes Go.ChangeAt Go.RowKit
open Go.ChangeMaps (open_string shut_string)
set_option linter.unusedVariables false

theorem own : ownKnob Try.prog.godebug = none := by kernel_rfl

set_option maxRecDepth 20000 in
set_option maxHeartbeats 4000000 in
theorem walk (a0 : ByteArray) (a1 : Int) (a2 : Int) (w : World) (w0 : a0.size ≤ maxLen) (w1 : (Lit.int .i64 a1).wf = true) (w2 : (Lit.int .i64 a2).wf = true) (s0 : a0.size ≤ 140737488351232) :
    Calls Try.prog 4 #[.string a0, .int .i64 a1, .int .i64 a2] w fun e w' => e = .returned (.bool true) ∧ Below w.heap.size w w' := by
  have hs : a0.size ≤ 140737488355327 := by omega
  clear w0 s0
  by_cases h4 : a0.size < 4
  · go_enter Try.func4, Try.ntmps4
    go_wp2_with fail
    refine (Sums.awake _).mono ?_
    rintro e v1 ⟨rfl, rfl⟩
    go_wp2
    go_ret
    exact ⟨rfl, Below.refl _ _⟩
  by_cases h300 : 300 < a0.size
  · go_enter Try.func4, Try.ntmps4
    go_wp2_with fail
    refine (Sums.awake _).mono ?_
    rintro e v1 ⟨rfl, rfl⟩
    go_wp2
    go_ret
    exact ⟨rfl, Below.refl _ _⟩
  obtain ⟨k, hk, k0, k1⟩ := Plain.rest a1 ((a0.size : Int) - 3) (by omega)
  obtain ⟨m, hm, m0, m1⟩ := Plain.rest a2 4294967295 (by decide)
  obtain ⟨u1, cp, hcv, hby, hbl⟩ := Sums.ofText w a0
  have HL : Hid (a0.data.toList.length = a0.size) := by unfold Hid; simp
  clear w1 w2
  go_enter Try.func4, Try.ntmps4
  go_wp2_with fail
  refine (Sums.awake _).mono ?_
  rintro e v1 ⟨rfl, rfl⟩
  go_wp2_with fail
  clear hk hm hcv
  obtain ⟨i, rfl⟩ := Int.eq_ofNat_of_zero_le k0
  obtain ⟨x, hx⟩ : ∃ x : Nat, 1 + m = (x : Int) := ⟨(1 + m).toNat, by omega⟩
  have hx0 : x ≠ 0 := by omega
  have hx1 : x < 4294967296 := by omega
  rw [hx]
  clear hx m0 m1 k0
  have HN : Hid (Plain.crc a0.data.toList ≠ Plain.crc (Sums.flip a0.data.toList i x 4)) := Sums.flip_told _ _ _ hx1 hx0 (by rw [HL.out]; omega)
  have hi : i + 4 ≤ a0.size := by omega
  go_loopw [10] (fun c wr => ∃ n : Nat, n ≤ 4 ∧ c = .int .i64 n ∧ Sums.Bytes wr v1.heap.size (Sums.flip a0.data.toList i x n) ∧ Below v1.heap.size v1 wr) (fun c _ => 4 - (intOf c).toNat)
  case atStart => exact ⟨0, by omega, rfl, hby, hbl⟩
  case round =>
    obtain ⟨n, hn, rfl, hb, hbw⟩ := hrel
    have HB : Hid (Sums.Bytes wr v1.heap.size (Sums.flip a0.data.toList i x n)) := hb
    clear hb hby hbl
    by_cases hlt : n < 4
    · have hlen : i + n < (Sums.flip a0.data.toList i x n).length := by rw [Sums.length_flip, HL.out]; omega
      have hc := HB.out.cell (i + n) hlen
      have hf := HB.out.free (i + n) hlen
      have hy : Plain.at8 (Sums.flip a0.data.toList i x n) (i + n) < 256 := Plain.at8_lt _ _
      have hsh := Sums.shr_byte x n
      have hz : x / 256 ^ n % 256 < 256 := Nat.mod_lt _ (by decide)
      have HB2 : Hid (Sums.Bytes (wr.setCell ⟨v1.heap.size, i + n, none⟩ (.int .u8 ((Plain.at8 (Sums.flip a0.data.toList i x n) (i + n) ^^^ (x / 256 ^ n % 256) : Nat) : Int))) v1.heap.size (Sums.flip a0.data.toList i x (n + 1))) := by
        have := HB.out.set (i + n) hlen (UInt8.ofNat (Plain.at8 (Sums.flip a0.data.toList i x n) (i + n) ^^^ (x / 256 ^ n % 256)))
        have e : (UInt8.ofNat (Plain.at8 (Sums.flip a0.data.toList i x n) (i + n) ^^^ (x / 256 ^ n % 256))).toNat = Plain.at8 (Sums.flip a0.data.toList i x n) (i + n) ^^^ (x / 256 ^ n % 256) := Sums.byte_of _ (Sums.xor8_lt hy hz)
        rw [e] at this
        exact this
      clear hlen
      generalize Plain.at8 (Sums.flip a0.data.toList i x n) (i + n) = y at *
      generalize x / 256 ^ n % 256 = z at *
      have hxor : bits .xor .u8 (y : Int) (z : Int) = ((y ^^^ z : Nat) : Int) := u8_xor_nat y z hy hz
      have i0 : (0 : Int) ≤ (i : Int) + (n : Int) := by omega
      have i1 : (i : Int) + (n : Int) < (a0.size : Int) := by omega
      go_wp2
      go_region
      go_wp2
      go_roundw
      case rel => exact ⟨n + 1, by omega, by go_num, ⟨HB2.out.cell, HB2.out.free⟩, (hbw.setCell (p := ⟨v1.heap.size, i + n, none⟩) (Nat.le_refl _) _).drew⟩
      case measure => simp [intOf]; omega
    · have hn4 : n = 4 := by omega
      subst hn4
      have hbk := HB.out.back (L := a0.size) (c := cp) (by rw [Sums.length_flip]; exact HL.out.symm)
      have HS : Hid ((ByteArray.mk (Sums.flip a0.data.toList i x 4).toArray).size ≤ 140737488355327) := by
        show (Sums.flip a0.data.toList i x 4).toArray.size ≤ _
        rw [List.size_toArray, Sums.length_flip, HL.out]
        exact hs
      have HC : Hid ((ByteArray.mk (Sums.flip a0.data.toList i x 4).toArray).data.toList = Sums.flip a0.data.toList i x 4) := rfl
      clear HB
      generalize ByteArray.mk (Sums.flip a0.data.toList i x 4).toArray = t at *
      go_wp2_with fail
      refine (Sums.sum _ _ hs).mono ?_
      rintro e v2 ⟨rfl, rfl⟩
      go_wp2_with fail
      refine (Sums.sum _ _ HS.out).mono ?_
      rintro e v3 ⟨rfl, rfl⟩
      have hne : ((Plain.crc a0.data.toList : Nat) : Int) ≠ ((Plain.crc t.data.toList : Nat) : Int) := by
        have := HN.out
        rw [HC.out]
        omega
      have hlt2 := Plain.crc_lt a0.data.toList
      generalize Plain.crc a0.data.toList = p at *
      generalize Plain.crc t.data.toList = q at *
      have hb2 : ((p : Int) != (q : Int)) = true := by simp; omega
      go_wp2
      go_ret
      exact ⟨Sums.ret_bool (decide_eq_true (by omega)), hbw⟩

set_option maxRecDepth 100000 in
theorem lifted (os : Os) (started : os.Started) (H : Type) (enc : TypeId × Value → H) :
    ReturnsInHanded {} Try.checked os 4 .any (Rows.crcBurstSpec.pre6 enc Try.prog Try.f4 Rows.crcBurstRow.domain false) (Rows.crcBurstSpec.post enc Try.prog Try.f4 false true false false) := by
  refine returnsInHanded_of_change_sized (C := Try.checked) own started (by kernel_rfl) Try.func4
    (ChangeSpec.witness6 (enc := enc) (C := Try.checked) false ⟨#[], #[.string ByteArray.empty, .int .i64 0, .int .i64 0], []⟩ 8 (by kernel_rfl) (by kernel_rfl) (by kernel_rfl) (by kernel_rfl)) ?_
  intro W base args ds gs before hval0 hW hcnd hsz0 _
  have hsz : (DataW.weightsEach Try.prog (Try.f4.params.toList ++ Rows.crcBurstSpec.plain.varTypes Try.prog) (ds ++ gs)).all (· ≤ reachBytes) = true := hsz0
  clear hsz0
  have hval : ∀ (j : Nat) t v, Try.f4.params[j]? = some t → args[j]? = some v → Value.okWide Try.prog W .any base t v := hval0
  have hW' := hW
  obtain ⟨p, q, hA0, hV, rfl, hfz, hnd⟩ := hW
  have hA : DataW.TrodAll enc Try.prog W 0 (fun _ => true) true Try.f4.params.toList args.toList ds p := hA0
  rw [Try.params4] at hA hval hsz
  obtain ⟨v0, vs0, d0, ds0, p0, q0, hargs, rfl, rfl, h0, r0⟩ := trodAll_cons hA
  obtain ⟨v1, vs1, d1, ds1, p1, q1, rfl, rfl, rfl, h1, r1⟩ := trodAll_cons r0
  obtain ⟨v2, vs2, d2, ds2, p2, q2, rfl, rfl, rfl, h2, r2⟩ := trodAll_cons r1
  obtain ⟨rfl, rfl, rfl⟩ := trodAll_nil r2
  obtain rfl : args = #[v0, v1, v2] := by cases args; simp_all
  obtain ⟨rfl, rfl⟩ := trodVars_none hV
  obtain ⟨a0, rfl, rfl, rfl, w0⟩ := open_string Try.underlying9 (hval 0 9 v0 rfl rfl) h0
  obtain ⟨a1, rfl, rfl, rfl, w1⟩ := open_int Try.underlying3 (hval 1 3 v1 rfl rfl) h1
  obtain ⟨a2, rfl, rfl, rfl, w2⟩ := open_int Try.underlying3 (hval 2 3 v2 rfl rfl) h2
  have s0 : a0.size ≤ 140737488351232 := by have := sized_string hsz (j := 0) (t := 9) rfl rfl; simpa [reachBytes] using this
  clear hA0 hval0
  refine (walk a0 a1 a2 W w0 w1 w2 s0).mono fun e W' ⟨he, bel⟩ => ?_
  subst he
  exact ⟨_, rfl, _, _, _, [], _, [], hW', trodAll_mk1 (shut_bool Try.underlying4 _), (trodAll_cons_mk (shut_string Try.underlying9 w0) (trodAll_cons_mk (shut_int Try.underlying3 w1) (trodAll_cons_mk (shut_int Try.underlying3 w2) trodAll_mk0))), rfl, bel.frame _, fun h => by cases h⟩

theorem over : Rows.crcBurstRow.holds Try.pinned (OpenSpec.ofChange Rows.crcBurstSpec) :=
  OpenClaim.holds_of_wide 4 Try.f4 rfl rfl rfl rfl rfl rfl rfl ⟨rfl, rfl, rfl, rfl, rfl⟩ rfl rfl rfl rfl rfl (by kernel_rfl) Try.func4 (by kernel_rfl)
    (of_decide_eq_true (by kernel_rfl)) (by unfold Func.isWrapper; first | (rw [if_pos (by decide +kernel)]; kernel_rfl) | (rw [if_neg (by decide +kernel)]; exact ⟨rfl, rfl⟩))
    (fun os started H enc _ => lifted os started H enc)

end Go.Proofs.Ytnfneaalkjnnfaa.crcBurst
namespace Go.Proofs.Ytnfneaalkjnnfaa
theorem crcBurst_holds : Rows.CrcBurstSaid := crcBurst.over
#print axioms crcBurst_holds
end Go.Proofs.Ytnfneaalkjnnfaa
