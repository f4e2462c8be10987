/-
  For every three texts: of parts of one length from their beginnings, what is turned tells how the sum is turned: quiverlaw4.CrcTurned returns true. No condition.
-/
import Derived.Test.YtnfneaalkjnnfaaRows
import Derived.WalkKit
import Derived.ProofKit
import Derived.OpenShut
import Derived.ShutString
import Derived.ChangeOld
import Derived.Below
import Derived.Deep.QuietTactic
import Derived.WalkSmall
import Derived.BigQuiet
import Derived.Laws.Cover1
import Derived.SizedLaws
import Derived.Test.YtnfneaalkjnnfaaPlain
import Derived.Test.YtnfneaalkjnnfaaSum
import Derived.Test.YtnfneaalkjnnfaaMem
namespace Go.Proofs.Ytnfneaalkjnnfaa.crcTurned
open Go.ChangeShapes Go.WideShapes Go.ChangeAt Go.RowKit
open Go.ChangeMaps (open_string shut_string)
set_option linter.unusedVariables false

theorem own : ownKnob Try.prog.godebug = none := by kernel_rfl

set_option maxRecDepth 20000 in
set_option maxHeartbeats 4000000 in
theorem walk (a0 : ByteArray) (a1 : ByteArray) (a2 : ByteArray) (w : World) (w0 : a0.size ≤ maxLen) (w1 : a1.size ≤ maxLen) (w2 : a2.size ≤ maxLen) (s0 : a0.size ≤ 140737488351232) (s1 : a1.size ≤ 140737488351232) (s2 : a2.size ≤ 140737488351232) :
    Calls Try.prog 6 #[.string a0, .string a1, .string a2] w fun e w' => e = .returned (.bool true) ∧ Below w.heap.size w w' := by
  obtain ⟨K, hmin, hK0, hK1, hK2⟩ : ∃ K : Nat, (∀ w, Sem.run Try.prog (Builtin.min_ #[3, 3, 3] 3 #[.int .i64 (a0.size : Int), .int .i64 (a1.size : Int), .int .i64 (a2.size : Int)]) w = .ok (.int .i64 (K : Int)) w) ∧ K ≤ a0.size ∧ K ≤ a1.size ∧ K ≤ a2.size := by
    refine ⟨min (min a0.size a1.size) a2.size, fun w => ?_, by omega, by omega, by omega⟩
    rw [run_min_int3]
    congr 2
    split <;> split <;> omega
  obtain ⟨u1, hmk, hby, hbl⟩ := Sums.make_bytes K (by omega) w
  have hk47 : K ≤ 140737488351232 := by omega
  obtain ⟨p0, hp0, HP0, hsl0⟩ := Sums.part a0 K hK0
  obtain ⟨p1, hp1, HP1, hsl1⟩ := Sums.part a1 K hK1
  obtain ⟨p2, hp2, HP2, hsl2⟩ := Sums.part a2 K hK2
  have l0 : p0.data.toList.length = K := by simpa using hp0
  have l1 : p1.data.toList.length = K := by simpa using hp1
  have l2 : p2.data.toList.length = K := by simpa using hp2
  have HE : Hid (Plain.crc (ByteArray.mk (Sums.mix a0.data.toList a1.data.toList a2.data.toList K K).toArray).data.toList = Plain.crc p0.data.toList ^^^ Plain.crc p1.data.toList ^^^ Plain.crc p2.data.toList) := by
    refine Plain.crc_turned _ _ _ (Sums.mix a0.data.toList a1.data.toList a2.data.toList K K) (by rw [l0, l1]) (by rw [l0, l2]) (by rw [Sums.length_mix, l0]) fun j hj => ?_
    rw [l0] at hj
    rw [Sums.at_mix _ _ _ _ _ (Nat.le_refl _) j hj, HP0.out j hj, HP1.out j hj, HP2.out j hj]
  have HT : Hid ((ByteArray.mk (Sums.mix a0.data.toList a1.data.toList a2.data.toList K K).toArray).size ≤ 140737488355327) := by
    show (Sums.mix a0.data.toList a1.data.toList a2.data.toList K K).toArray.size ≤ _
    rw [List.size_toArray, Sums.length_mix]
    omega
  have HS0 : Hid (p0.size ≤ 140737488355327) := by unfold Hid; omega
  have HS1 : Hid (p1.size ≤ 140737488355327) := by unfold Hid; omega
  have HS2 : Hid (p2.size ≤ 140737488355327) := by unfold Hid; omega
  have hq1 := Sums.xor_i64 _ _ (Plain.crc_lt p0.data.toList) (Plain.crc_lt p1.data.toList)
  have hq2 := Sums.xor_i64 _ _ (Plain.xor_lt (Plain.crc_lt p0.data.toList) (Plain.crc_lt p1.data.toList)) (Plain.crc_lt p2.data.toList)
  clear HP0 HP1 HP2 hp0 hp1 hp2 w0 w1 w2 l0 l1 l2
  go_enter Try.func6, Try.ntmps6
  go_wp2_with fail
  refine (Sums.awake _).mono ?_
  rintro e v1 ⟨rfl, rfl⟩
  go_wp2_with fail
  clear hmin hmk
  go_loopw [9] (fun c wr => ∃ n : Nat, n ≤ K ∧ c = .int .i64 n ∧ Sums.Bytes wr v1.heap.size (Sums.mix a0.data.toList a1.data.toList a2.data.toList K n) ∧ Below v1.heap.size v1 wr) (fun c _ => K - (intOf c).toNat)
  case atStart => exact ⟨0, by omega, rfl, hby, hbl⟩
  case round =>
    obtain ⟨n, hn, rfl, hb, hbw⟩ := hrel
    have HB : Hid (Sums.Bytes wr v1.heap.size (Sums.mix a0.data.toList a1.data.toList a2.data.toList K n)) := hb
    clear hb hby hbl
    by_cases hlt : n < K
    · clear hq1 hq2 hsl0 hsl1 hsl2 HT HS0 HS1 HS2 HE
      have hlen : n < (Sums.mix a0.data.toList a1.data.toList a2.data.toList K n).length := by rw [Sums.length_mix]; exact hlt
      have hc := HB.out.cell n hlen
      have hf := HB.out.free n hlen
      have b0 : a0[n].toNat < 256 := a0[n].toNat_lt
      have b1 : a1[n].toNat < 256 := a1[n].toNat_lt
      have b2 : a2[n].toNat < 256 := a2[n].toNat_lt
      have hx1 : bits .xor .u8 (a0[n].toNat : Int) (a1[n].toNat : Int) = ((a0[n].toNat ^^^ a1[n].toNat : Nat) : Int) := u8_xor_nat _ _ b0 b1
      have hx2 : bits .xor .u8 ((a0[n].toNat ^^^ a1[n].toNat : Nat) : Int) (a2[n].toNat : Int) = ((a0[n].toNat ^^^ a1[n].toNat ^^^ a2[n].toNat : Nat) : Int) := u8_xor_nat _ _ (Sums.xor8_lt b0 b1) b2
      have HB2 : Hid (Sums.Bytes (wr.setCell ⟨v1.heap.size, n, none⟩ (.int .u8 ((a0[n].toNat ^^^ a1[n].toNat ^^^ a2[n].toNat : Nat) : Int))) v1.heap.size (Sums.mix a0.data.toList a1.data.toList a2.data.toList K (n + 1))) := by
        have := HB.out.set n hlen (UInt8.ofNat (a0[n].toNat ^^^ a1[n].toNat ^^^ a2[n].toNat))
        rw [Sums.byte_of _ (Sums.xor8_lt (Sums.xor8_lt b0 b1) b2)] at this
        unfold Hid
        rw [Sums.mix, Sums.at_s a0 n (by omega), Sums.at_s a1 n (by omega), Sums.at_s a2 n (by omega)]
        exact this
      clear hlen
      generalize Plain.at8 (Sums.mix a0.data.toList a1.data.toList a2.data.toList K n) n = y at *
      have i0 : (0 : Int) ≤ (n : Int) := by omega
      have i1 : (n : Int) < (K : Int) := by omega
      have i2 : (n : Int) < (a0.size : Int) := by omega
      have i3 : (n : Int) < (a1.size : Int) := by omega
      have i4 : (n : Int) < (a2.size : Int) := by omega
      go_wp2
      go_region
      go_wp2
      go_roundw
      case rel => exact ⟨n + 1, by omega, by go_num, ⟨HB2.out.cell, HB2.out.free⟩, (hbw.setCell (p := ⟨v1.heap.size, n, none⟩) (Nat.le_refl _) _).drew⟩
      case measure => simp [intOf]; omega
    · have hnK : n = K := by omega
      subst hnK
      have hbk : ∀ q, (convert 25 9 (.slice (some ⟨v1.heap.size, 0, none⟩) n n)).run Try.prog (wr.drewN q) = .ok (.string ⟨(Sums.mix a0.data.toList a1.data.toList a2.data.toList n n).toArray⟩) (wr.drewN q) := fun q => (HB.out.drewN q).back (by rw [Sums.length_mix])
      have HE2 : Hid (Plain.crc (ByteArray.mk (Sums.mix a0.data.toList a1.data.toList a2.data.toList n n).toArray).data.toList = Plain.crc p0.data.toList ^^^ Plain.crc p1.data.toList ^^^ Plain.crc p2.data.toList) := HE
      clear HB HE
      generalize ByteArray.mk (Sums.mix a0.data.toList a1.data.toList a2.data.toList n n).toArray = t at *
      go_wp2_with fail
      go_quiet (first
        | (go_at_call 10; exact Calls.quiet_of_same (Sums.num _ _))
        | (go_at_call 7; exact Calls.quiet_of_same (Sums.sumH _ _ (by assumption))))
      go_wp2
      go_ret
      exact ⟨Sums.ret_bool (by rw [HE2.out]; simp), below_drewN hbw _⟩

set_option maxRecDepth 100000 in
theorem lifted (os : Os) (started : os.Started) (H : Type) (enc : TypeId × Value → H) :
    ReturnsInHanded {} Try.checked os 6 .any (Rows.crcTurnedSpec.pre6 enc Try.prog Try.f6 Rows.crcTurnedRow.domain false) (Rows.crcTurnedSpec.post enc Try.prog Try.f6 false true false false) := by
  refine returnsInHanded_of_change_sized (C := Try.checked) own started (by kernel_rfl) Try.func6
    (ChangeSpec.witness6 (enc := enc) (C := Try.checked) false ⟨#[], #[.string ByteArray.empty, .string ByteArray.empty, .string ByteArray.empty], []⟩ 8 (by kernel_rfl) (by kernel_rfl) (by kernel_rfl) (by kernel_rfl)) ?_
  intro W base args ds gs before hval0 hW hcnd hsz0 _
  have hsz : (DataW.weightsEach Try.prog (Try.f6.params.toList ++ Rows.crcTurnedSpec.plain.varTypes Try.prog) (ds ++ gs)).all (· ≤ reachBytes) = true := hsz0
  clear hsz0
  have hval : ∀ (j : Nat) t v, Try.f6.params[j]? = some t → args[j]? = some v → Value.okWide Try.prog W .any base t v := hval0
  have hW' := hW
  obtain ⟨p, q, hA0, hV, rfl, hfz, hnd⟩ := hW
  have hA : DataW.TrodAll enc Try.prog W 0 (fun _ => true) true Try.f6.params.toList args.toList ds p := hA0
  rw [Try.params6] at hA hval hsz
  obtain ⟨v0, vs0, d0, ds0, p0, q0, hargs, rfl, rfl, h0, r0⟩ := trodAll_cons hA
  obtain ⟨v1, vs1, d1, ds1, p1, q1, rfl, rfl, rfl, h1, r1⟩ := trodAll_cons r0
  obtain ⟨v2, vs2, d2, ds2, p2, q2, rfl, rfl, rfl, h2, r2⟩ := trodAll_cons r1
  obtain ⟨rfl, rfl, rfl⟩ := trodAll_nil r2
  obtain rfl : args = #[v0, v1, v2] := by cases args; simp_all
  obtain ⟨rfl, rfl⟩ := trodVars_none hV
  obtain ⟨a0, rfl, rfl, rfl, w0⟩ := open_string Try.underlying9 (hval 0 9 v0 rfl rfl) h0
  obtain ⟨a1, rfl, rfl, rfl, w1⟩ := open_string Try.underlying9 (hval 1 9 v1 rfl rfl) h1
  obtain ⟨a2, rfl, rfl, rfl, w2⟩ := open_string Try.underlying9 (hval 2 9 v2 rfl rfl) h2
  have s0 : a0.size ≤ 140737488351232 := by have := sized_string hsz (j := 0) (t := 9) rfl rfl; simpa [reachBytes] using this
  have s1 : a1.size ≤ 140737488351232 := by have := sized_string hsz (j := 1) (t := 9) rfl rfl; simpa [reachBytes] using this
  have s2 : a2.size ≤ 140737488351232 := by have := sized_string hsz (j := 2) (t := 9) rfl rfl; simpa [reachBytes] using this
  clear hA0 hval0
  refine (walk a0 a1 a2 W w0 w1 w2 s0 s1 s2).mono fun e W' ⟨he, bel⟩ => ?_
  subst he
  exact ⟨_, rfl, _, _, _, [], _, [], hW', trodAll_mk1 (shut_bool Try.underlying4 _), (trodAll_cons_mk (shut_string Try.underlying9 w0) (trodAll_cons_mk (shut_string Try.underlying9 w1) (trodAll_cons_mk (shut_string Try.underlying9 w2) trodAll_mk0))), rfl, bel.frame _, fun h => by cases h⟩

theorem over : Rows.crcTurnedRow.holds Try.pinned (OpenSpec.ofChange Rows.crcTurnedSpec) :=
  OpenClaim.holds_of_wide 6 Try.f6 rfl rfl rfl rfl rfl rfl rfl ⟨rfl, rfl, rfl, rfl, rfl⟩ rfl rfl rfl rfl rfl (by kernel_rfl) Try.func6 (by kernel_rfl)
    (of_decide_eq_true (by kernel_rfl)) (by unfold Func.isWrapper; first | (rw [if_pos (by decide +kernel)]; kernel_rfl) | (rw [if_neg (by decide +kernel)]; exact ⟨rfl, rfl⟩))
    (fun os started H enc _ => lifted os started H enc)

end Go.Proofs.Ytnfneaalkjnnfaa.crcTurned
namespace Go.Proofs.Ytnfneaalkjnnfaa
theorem crcTurned_holds : Rows.CrcTurnedSaid := crcTurned.over
#print axioms crcTurned_holds
end Go.Proofs.Ytnfneaalkjnnfaa
