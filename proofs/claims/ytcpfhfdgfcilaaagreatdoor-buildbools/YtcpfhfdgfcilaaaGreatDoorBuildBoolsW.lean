/-
  BuildBools: truths stand in bits, the lowest first, as many bytes as they need; for every input within reach.
-/
import Derived.Test.YtcpfhfdgfcilaaaGreatDoorRows
import Derived.WalkKit
import Derived.ProofKit
import Derived.OpenShut
import Derived.ShutString
import Derived.ChangeOld
import Derived.Below
import Derived.SizedLaws
import Derived.Deep.QuietTactic
import Derived.WalkSmall
import Derived.BigQuiet
import Derived.Deep.RegionWith
import Derived.OwnWalk
import Derived.RegionTactic
import Derived.ChangeAlike
import Derived.Deep.CutBlock
import Derived.Maps.AppendAt
import Derived.OneCell
import Derived.LaidMore
import Derived.Stop.Joined
import Derived.SevenTiedAt
import Derived.Test.YtcpfhfdgfcilaaaGreatDoorCards
import Derived.Test.YtcpfhfdgfcilaaaGreatDoorTie
import Derived.Test.YtcpfhfdgfcilaaaGreatDoorB01
import Derived.Test.YtcpfhfdgfcilaaaGreatDoorB02
import Derived.Test.YtcpfhfdgfcilaaaGreatDoorB09
import Derived.Test.YtcpfhfdgfcilaaaGreatDoorB11
import Derived.Test.YtcpfhfdgfcilaaaGreatDoorB12
import Derived.Test.YtcpfhfdgfcilaaaGreatDoorB15
import Derived.Test.YtcpfhfdgfcilaaaGreatDoorB13
import Derived.Test.YtcpfhfdgfcilaaaGreatDoorB14
import Derived.Test.YtcpfhfdgfcilaaaGreatDoorB17
import Derived.Test.YtcpfhfdgfcilaaaGreatDoorB30
import Derived.Test.YtcpfhfdgfcilaaaGreatDoorB31
import Derived.Test.YtcpfhfdgfcilaaaGreatDoorB24
import Derived.Test.YtcpfhfdgfcilaaaGreatDoorZB
namespace Go.Proofs.YtcpfhfdgfcilaaaGreatDoor.buildBools
open Go.ChangeShapes Go.WideShapes Go.ChangeAt Go.RowKit
open Go.ChangeMaps (open_string shut_string)
set_option linter.unusedVariables false

theorem own : ownKnob Tryz.prog.godebug = none := by kernel_rfl

open Tree Arr
set_option maxRecDepth 20000 in
set_option maxHeartbeats 4000000 in
theorem walk (a0 : Int) (a1 : Int) (w : World) (hw : Hid (Val.HomeE w)) (hp0 : (Lit.int .i64 a0).wf = true) (hp1 : (Lit.int .i64 a1).wf = true) :
    Calls Tryz.prog 9 #[.int .i64 a0, .int .i64 a1] w fun e w' => e = .returned (.bool true) ∧ Below w.heap.size w w' := by
  obtain ⟨k, hM, hk32⟩ : ∃ k : Nat, bits .and .i64 a0 31 = (k : Int) ∧ k < 32 := ⟨(a0 % 32).toNat, by rw [BitP.and_mask a0 5 (by decide) 31 (by decide)]; omega, by omega⟩
  have HK32 : Hid (k < 32) := hk32
  clear hp0
  go_enter Tryz.func9, Tryz.ntmps9
  go_wp2_with fail
  refine (awakeB w hw).mono ?_
  rintro e w0 ⟨rfl, b0⟩
  have B0 : Hid (Below w.heap.size w w0) := b0
  obtain ⟨w1, e1, hT1, b1⟩ : ∃ w1, w0.alloc (.cells #[.int .i64 1, .int .i64 (-1), .bool false] 40) = w1 ∧ w1.heap[w0.heap.size]? = some (.cells #[.int .i64 1, .int .i64 (-1), .bool false] 40) ∧ Below w0.heap.size w0 w1 := ⟨_, rfl, heap_alloc_new _ _, (Below.refl _ _).alloc (Nat.le_refl _) _⟩
  obtain ⟨w2, e2, s2, c2, b2⟩ := boxed w1 (.slice none 0 0) 24
  have hf2 : w2.heap[w1.heap.size]? = some (.cells #[.slice none 0 0] 24) := by rw [← e2]; exact heap_alloc_new _ _
  have z2 : w2.frozen? ⟨w1.heap.size, 0, none⟩ = false := by simp [World.frozen?, hf2]
  obtain ⟨w3, e3⟩ : ∃ w3, w2.setCell ⟨w1.heap.size, 0, none⟩ (.slice (some ⟨w0.heap.size, 0, none⟩) 1 1) = w3 := ⟨_, rfl⟩
  have b13 : Below w1.heap.size w1 w3 := by rw [← e3]; exact b2.setCell (Nat.le_refl _) _
  have hf3 : w3.heap[w1.heap.size]? = some (.cells #[.slice (some ⟨w0.heap.size, 0, none⟩) 1 1] 24) := by
    have := blk_set hf2 0 (.slice (some ⟨w0.heap.size, 0, none⟩) 1 1)
    rw [e3] at this
    exact this
  have HT3 : Hid (w3.cell? ⟨w1.heap.size, 0, none⟩ = some (.slice (some ⟨w0.heap.size, 0, none⟩) 1 1)) := by
    unfold Hid
    simp [World.cell?, hf3]
  have B3 : Hid (Below w.heap.size w w3) := bel2 B0.out (bel2 b1 b13)
  have HI3 : Hid (IsT w3 (some ⟨w0.heap.size, 0, none⟩) bT) := ⟨by decide, .inr ⟨_, rfl, (bT_lies hT1).later b13⟩⟩
  clear hT1 b1 b2 hf2 hf3 s2 b13 b0
  go_upto_region 6 with fail
  try rw [e3]
  clear e1 e2 e3 c2 z2
  obtain ⟨q, hq⟩ : ∃ q : Nat, q = (k + 7) / 8 := ⟨_, rfl⟩
  have HQ : Hid (q = (k + 7) / 8) := hq
  have hqi : ((k : Int) + 7) / 8 = (q : Int) := by omega
  have hk0 : (0 : Int) ≤ (k : Int) := Int.natCast_nonneg _
  have hk1 : (k : Int) < 32 := by omega
  have hmk := Bit.make_bytes' q (by omega) w3
  obtain ⟨w4, e4, b4⟩ : ∃ w4, w3.alloc (.cells (Bit.zeros q) 5) = w4 ∧ Below w3.heap.size w3 w4 := ⟨_, rfl, (Below.refl _ _).alloc (Nat.le_refl _) _⟩
  have hz4 : Bit.Bytes w4 w3.heap.size (List.replicate q 0) := by rw [← e4]; exact Bit.Bytes.zeros w3 q
  have hs4 : w3.heap.size < w4.heap.size := by rw [← e4]; simp
  rw [e4] at hmk
  obtain ⟨bs, hbs⟩ : ∃ bs, bs = (List.range k).map (bt a1) := ⟨_, rfl⟩
  have HBS : Hid (bs = (List.range k).map (bt a1)) := hbs
  have hbl : bs.length = k := by rw [hbs]; simp
  have HBL : Hid (bs.length = k) := hbl
  have HZ4 : Hid (Bit.Bytes w4 w3.heap.size (Sums.ofTo bs 0)) := by
    unfold Hid
    rw [show Sums.ofTo bs 0 = List.replicate ((bs.length + 7) / 8) 0 from rfl, hbl, ← hq]
    exact hz4
  have B4 : Hid (Below w3.heap.size w3 w4) := b4
  have HS4 : Hid (w3.heap.size < w4.heap.size) := hs4
  clear hz4 hs4 b4 e4 hq hbs hbl
  obtain ⟨i9, hi, hz0, hz1, hz2⟩ := info_parts info9
  go_wp2_with fail
  simp only [hqi]
  clear hqi hmk
  go_loopw [7, 9, 10] (fun v i _ wr => ∃ (m : Nat) (ov : Option Addr) (cv : Nat), m ≤ k ∧ i = .int .i64 (m : Int) ∧ v = .slice ov m cv ∧ wr.ownsRow w4.heap.size 9 1 (.slice ov m cv) m (Texts.cellsT (bvs a1 m)) ∧ Bit.Bytes wr w3.heap.size (Sums.ofTo bs m) ∧ Below w3.heap.size w3 wr ∧ w4.heap.size ≤ wr.heap.size) (fun _ i _ _ => k - (intOf i).toNat)
  case atStart => exact ⟨0, none, 0, Nat.zero_le _, rfl, rfl, World.ownsRow_nil _ _ _ _, HZ4.out, B4.out, Nat.le_refl _⟩
  case round =>
    obtain ⟨m, ov, cv, hm, rfl, rfl, hown, hby, hbl, hsz⟩ := hrel
    have HOWN : Hid (wr.ownsRow w4.heap.size 9 1 (.slice ov m cv) m (Texts.cellsT (bvs a1 m))) := hown
    have HBY : Hid (Bit.Bytes wr w3.heap.size (Sums.ofTo bs m)) := hby
    have BL : Hid (Below w3.heap.size w3 wr) := hbl
    have HSZ : Hid (w4.heap.size ≤ wr.heap.size) := hsz
    clear hown hby hbl hsz
    have m0 : (0 : Int) ≤ (m : Int) := Int.natCast_nonneg _
    by_cases hlt : m < k
    · have hm64 : (m : Int) < 64 := by omega
      have HSN : Hid (Sums.ofTo bs (m + 1) = if bt a1 m then BitP.setB (Sums.ofTo bs m) m true else Sums.ofTo bs m) := by
        unfold Hid
        rw [show Sums.ofTo bs (m + 1) = if bs.getD m false then BitP.setB (Sums.ofTo bs m) m true else Sums.ofTo bs m from rfl, HBS.out, bits_prefix _ _ _ hlt]
      cases hbt : bt a1 m
      · rw [hbt] at HSN
        have hb : (bits .and .i64 (a1 / 2 ^ m) 1 == 1) = false := hbt
        have HNB : Hid (Bit.Bytes wr w3.heap.size (Sums.ofTo bs (m + 1))) := by
          unfold Hid
          rw [HSN.out]
          exact HBY.out
        have hown := HOWN.out
        have hz := HSZ.out
        clear HSN
        go_wp2_with (at_builtin; refine wpList_append_own _ rfl (.tmp 47) (.tmp 49) 29 rfl w4.heap.size 9 i9 (.string ⟨#[]⟩) 1 16 Tryz.underlying29 hi hz0 hz1 hz2 rfl (by decide) _ m _ rfl (hown.alloc _) ⟨wr.heap.size, 0, none⟩ 1 1 [.string ⟨#[102]⟩] rfl rfl ?c1 ?c2 ?c3 ?c4 ?c5 ?_)
        case c1 =>
          intro j u hj
          match j, hj with
          | 0, hj => simp at hj; subst hj; simp [Addr.add]
        case c2 => intro u hu; simp at hu; subst hu; rfl
        case c3 => unfold maxLen; omega
        case c4 => omega
        case c5 => simp; omega
        intro u6 w6 hown6 hgrow _
        have B6 : Hid (Below w4.heap.size wr w6) := ((Below.refl w4.heap.size wr).alloc hz _).grown hgrow (by simp; omega) (fun j hj => (hown.lt j hj).1)
        have B36 : Hid (Below w3.heap.size w3 w6) := (BL.out.alloc (by have := HS4.out; omega) _).grown hgrow (by have := HS4.out; simp; omega) (fun j hj => by have := (hown.lt j hj).1; have := HS4.out; omega)
        obtain ⟨o6, c6, rfl⟩ := ownsRow_len hown6
        have HO6 : Hid (w6.ownsRow w4.heap.size 9 1 (.slice o6 (m + 1) c6) (m + 1) (Texts.cellsT (bvs a1 (m + 1)))) := by
          unfold Hid
          rw [cells_range, hbt]
          exact hown6
        have HB6 : Hid (Bit.Bytes w6 w3.heap.size (Sums.ofTo bs (m + 1))) := bytes_later HNB.out B6.out HS4.out
        have HZ6 : Hid (w4.heap.size ≤ w6.heap.size) := Nat.le_trans hz B6.out.size
        clear hown6 hgrow hown
        go_wp2
        go_roundw
        case rel => exact ⟨m + 1, o6, c6, by omega, by go_num, rfl, HO6.out, HB6.out, B36.out, HZ6.out⟩
        case measure => simp [intOf]; omega
      · rw [hbt] at HSN
        have hb : (bits .and .i64 (a1 / 2 ^ m) 1 == 1) = true := hbt
        have hql : m / 8 < q := by have := HQ.out; omega
        have HL : Hid ((Sums.ofTo bs m).length = q) := by unfold Hid; rw [Sums.length_ofTo, HBL.out, ← HQ.out]
        have hc := HBY.out.cell (m / 8) (by rw [HL.out]; exact hql)
        have hf := HBY.out.free (m / 8) (by rw [HL.out]; exact hql)
        have hmm : (m : Int) % 8 = ((m % 8 : Nat) : Int) := by omega
        have hr : m % 8 < 8 := Nat.mod_lt _ (by decide)
        have hx : ((Sums.ofTo bs m).getD (m / 8) 0).toNat < 256 := BitP.byte_lt _
        have hb2 : Bit.Bytes (wr.setCell ⟨w3.heap.size, m / 8, none⟩ (.int .u8 ((BitP.turn ((Sums.ofTo bs m).getD (m / 8) 0).toNat (m % 8) true : Nat) : Int))) w3.heap.size (Sums.ofTo bs (m + 1)) := by
          have := HBY.out.set (m / 8) (by rw [HL.out]; exact hql) (UInt8.ofNat (BitP.turn ((Sums.ofTo bs m).getD (m / 8) 0).toNat (m % 8) true))
          rw [BitP.setB_byte] at this
          rw [HSN.out]
          exact this
        clear HSN
        generalize hL1 : Sums.ofTo bs (m + 1) = L1 at *
        have HL1 : Hid (Sums.ofTo bs (m + 1) = L1) := hL1
        clear hL1
        generalize ((Sums.ofTo bs m).getD (m / 8) 0).toNat = x at *
        generalize m % 8 = r at *
        have HB2 : Hid (Bit.Bytes (wr.setCell ⟨w3.heap.size, m / 8, none⟩ (.int .u8 ((BitP.turn x r true : Nat) : Int))).drew w3.heap.size L1) := ⟨hb2.cell, hb2.free⟩
        have HO2 : Hid ((wr.setCell ⟨w3.heap.size, m / 8, none⟩ (.int .u8 ((BitP.turn x r true : Nat) : Int))).drew.ownsRow w4.heap.size 9 1 (.slice ov m cv) m (Texts.cellsT (bvs a1 m))) := ownsRow_setCell_below HOWN.out HS4.out _
        have BL2 : Hid (Below w3.heap.size w3 (wr.setCell ⟨w3.heap.size, m / 8, none⟩ (.int .u8 ((BitP.turn x r true : Nat) : Int))).drew) := (BL.out.setCell (p := ⟨w3.heap.size, m / 8, none⟩) (Nat.le_refl _) _).drew
        have HZ2 : Hid (w4.heap.size ≤ (wr.setCell ⟨w3.heap.size, m / 8, none⟩ (.int .u8 ((BitP.turn x r true : Nat) : Int))).drew.heap.size) := by have := HSZ.out; unfold Hid; simp [World.setCell, World.drew]; exact this
        clear hb2
        have ht : bits BinOp.or IntKind.u8 (↑x) (2 ^ r % 256) = _ := BitP.or_byte x r hx hr
        have i0 : (0 : Int) ≤ (m : Int) / 8 := by omega
        have i1 : (m : Int) / 8 < (q : Int) := by omega
        go_wp2
        go_region
        generalize (wr.setCell ⟨w3.heap.size, m / 8, none⟩ (.int .u8 ((BitP.turn x r true : Nat) : Int))).drew = ws at *
        have hown := HO2.out
        have hz := HZ2.out
        clear hc hf ht i0 i1 hx hr hmm hql
        go_wp2_with (at_builtin; refine wpList_append_own _ rfl (.tmp 47) (.tmp 49) 29 rfl w4.heap.size 9 i9 (.string ⟨#[]⟩) 1 16 Tryz.underlying29 hi hz0 hz1 hz2 rfl (by decide) _ m _ rfl (hown.alloc _) ⟨ws.heap.size, 0, none⟩ 1 1 [.string ⟨#[116]⟩] rfl rfl ?c1 ?c2 ?c3 ?c4 ?c5 ?_)
        case c1 =>
          intro j u hj
          match j, hj with
          | 0, hj => simp at hj; subst hj; simp [Addr.add]
        case c2 => intro u hu; simp at hu; subst hu; rfl
        case c3 => unfold maxLen; omega
        case c4 => omega
        case c5 => simp; omega
        intro u6 w6 hown6 hgrow _
        have B6 : Hid (Below w4.heap.size ws w6) := ((Below.refl w4.heap.size ws).alloc hz _).grown hgrow (by simp; omega) (fun j hj => (hown.lt j hj).1)
        have B36 : Hid (Below w3.heap.size w3 w6) := (BL2.out.alloc (by have := HS4.out; omega) _).grown hgrow (by have := HS4.out; simp; omega) (fun j hj => by have := (hown.lt j hj).1; have := HS4.out; omega)
        obtain ⟨o6, c6, rfl⟩ := ownsRow_len hown6
        have HO6 : Hid (w6.ownsRow w4.heap.size 9 1 (.slice o6 (m + 1) c6) (m + 1) (Texts.cellsT (bvs a1 (m + 1)))) := by
          unfold Hid
          rw [cells_range, hbt]
          exact hown6
        have HB6 : Hid (Bit.Bytes w6 w3.heap.size (Sums.ofTo bs (m + 1))) := by
          unfold Hid
          rw [HL1.out]
          exact bytes_later HB2.out B6.out HS4.out
        have HZ6 : Hid (w4.heap.size ≤ w6.heap.size) := Nat.le_trans hz B6.out.size
        clear hown6 hgrow hown
        go_wp2
        go_roundw
        case rel => exact ⟨m + 1, o6, c6, by omega, by go_num, rfl, HO6.out, HB6.out, B36.out, HZ6.out⟩
        case measure => simp [intOf]; omega
    · obtain rfl : m = k := by omega
      obtain ⟨A, hA⟩ : ∃ A : Arr, A = ⟨0, 0, (m : Int), ⟨#[]⟩, ⟨#[]⟩, ⟨(Sums.ofTo bs m).toArray⟩, []⟩ := ⟨_, rfl⟩
      have HAE : Hid (A = ⟨0, 0, (m : Int), ⟨#[]⟩, ⟨#[]⟩, ⟨(Sums.ofTo bs m).toArray⟩, []⟩) := hA
      have HAA : Hid (bA bs = A) := by unfold Hid bA; rw [HBL.out, hA]
      have HX : Hid (Texts.IsTx wr ov (bvs a1 m)) := own_textsN HOWN.out (bvs_length a1 m)
      have HBU : Hid (Calls Tryz.prog 26 #[.agg #[.slice (some ⟨w0.heap.size, 0, none⟩) 1 1], .int .i64 0, .slice ov m cv] wr fun r w' => ∃ o c, r = .returned (.tuple #[A.val o c, .int .i64 0]) ∧ HoldsF (upB 4096) 96 w' 8 (A.cells o c) A ∧ Below wr.heap.size wr w') := by
        have := buildP 4096 (Nat.le_refl _) bT (some ⟨w0.heap.size, 0, none⟩) 1 0 (bvs a1 m) ov cv wr (sizes_of _ (bvs_sizes a1 m)) (hw.out.later (bel2 B3.out BL.out)) HX.out (HI3.out.later BL.out)
        rw [bvs_length] at this
        refine this.mono ?_
        rintro e w' ⟨o', c', h1, h2, h3⟩
        have hb : bvs a1 m = bs.map bv := by unfold bvs; rw [HBS.out]
        obtain ⟨q1, q2⟩ := bT_ok bs (by have := HBL.out; omega)
        rw [hb, q1, q2, HAA.out] at h1
        rw [hb, q2, HAA.out] at h2
        exact ⟨o', c', h1, h2.holds, h3⟩
      have HSA : Hid (∀ (v : World) oA cA, HoldsF (upB 4096) 96 v 8 (A.cells oA cA) A → Calls Tryz.prog 28 #[A.val oA cA, .agg #[.int .i64 0, .int .i64 0, .int .i64 (m : Int), .string ⟨#[]⟩, .string ⟨#[]⟩, .string ⟨(Sums.ofTo bs m).toArray⟩, .slice none 0 0]] v fun r w' => r = .returned (.bool true) ∧ Below v.heap.size v w') := by
        intro v oA cA h
        have hok : A.ok (upB 4096) := by rw [← HAA.out]; exact bA_ok _ (by unfold upB; omega) bs (by have := HBL.out; omega)
        have hk : A.kids = [] := by rw [HAE.out]
        have := sameA (upB 4096) 96 8 A oA cA none 0 v h ⟨none, 0, rfl, hok, by rw [hk]; exact Nat.le_refl _, Nat.zero_le _, Nat.zero_le _, .inl ⟨rfl, hk, rfl⟩⟩
        rw [show A.val none 0 = .agg #[.int .i64 0, .int .i64 0, .int .i64 (m : Int), .string ⟨#[]⟩, .string ⟨#[]⟩, .string ⟨(Sums.ofTo bs m).toArray⟩, .slice none 0 0] from by rw [HAE.out]; rfl] at this
        exact this
      have cT := cell_later BL.out HT3.out
      have HBYL : Hid (∀ v, Below wr.heap.size wr v → (convert 42 9 (.slice (some ⟨w3.heap.size, 0, none⟩) q q)).run Tryz.prog v = .ok (.string ⟨(Sums.ofTo bs m).toArray⟩) v) := fun v hv => (bytes_later HBY.out hv (by have := HS4.out; have := HSZ.out; omega)).back (by rw [Sums.length_ofTo, HBL.out]; exact HQ.out)
      have BWR : Hid (Below w.heap.size w wr) := bel2 B3.out BL.out
      clear hA hlt hM m0 hi hz0 hz1 hz2
      unfold Arr.val at HBU HSA
      go_wp2_with fail
      refine HBU.out.mono ?_
      rintro e w5 ⟨oA, cA, rfl, hA5, b5⟩
      have B5 : Hid (Below wr.heap.size wr w5) := b5
      have HA5 : Hid (HoldsF (upB 4096) 96 w5 8 (A.cells oA cA) A) := hA5
      clear hA5 b5 cT HBU
      obtain ⟨wal, eal', xal, bal, zal⟩ := box7 w5 nil none 0
      have eal : w5.alloc (.cells #[.int .i64 0, .int .i64 0, .int .i64 0, .string ⟨#[]⟩, .string ⟨#[]⟩, .string ⟨#[]⟩, .slice none 0 0] 27) = wal := eal'
      have m0 := xal.c0
      have m1 := xal.c1
      have m2 := xal.c2
      have m3 := xal.c3
      have m4 := xal.c4
      have m5 := xal.c5
      have m6 := xal.c6
      have f0 := xal.fz 0
      have f1 := xal.fz 1
      have f2 := xal.fz 2
      have f3 := xal.fz 3
      have f4 := xal.fz 4
      have f5 := xal.fz 5
      have f6 := xal.fz 6
      unfold nil at m0 m1 m2 m3 m4 m5 m6
      obtain ⟨w7, efl, xfl, hfl, bfl⟩ := set7 xal A oA cA
      have X7 : Hid (Bx w7 w5.heap.size A oA cA) := xfl
      have B57 : Hid (Below w5.heap.size w5 w7) := bal.trans (bfl _ (Nat.le_refl _))
      clear eal' xal bal zal xfl hfl bfl
      go_upto_region 16 with fail
      try rw [efl]
      clear efl eal m0 m1 m2 m3 m4 m5 m6 f0 f1 f2 f3 f4 f5 f6
      have B7 : Hid (Below wr.heap.size wr w7) := bel2 B5.out B57.out
      have HS7 := HSA.out w7 oA cA (HA5.out.later B57.out)
      have hbk := HBYL.out w7 B7.out
      have d0 := X7.out.c0
      have d1 := X7.out.c1
      have d2 := X7.out.c2
      have d3 := X7.out.c3
      have d4 := X7.out.c4
      have d5 := X7.out.c5
      have d6 := X7.out.c6
      go_wp2_with fail
      refine (Tree.num _ _).mono ?_
      rintro e wx ⟨rfl, hv⟩
      subst wx
      go_wp2_with fail
      refine HS7.mono ?_
      rintro e w8 ⟨rfl, b8⟩
      have B8 : Hid (Below w.heap.size w w8) := bel2 (bel2 BWR.out B7.out) b8
      clear b8 hbk d0 d1 d2 d3 d4 d5 d6 HS7
      go_wp2
      go_ret
      exact ⟨rfl, B8.out⟩

set_option maxRecDepth 100000 in
theorem lifted (os : Os) (started : os.Started) (H : Type) (enc : TypeId × Value → H) :
    ReturnsInHanded {} Tryz.checked os 9 .any (fun w args => (Rows.buildBoolsSpec.pre enc Tryz.prog Tryz.f9 [] false w args ∧ laidMetH Tryz.prog Val.laidB w) ∧ sizedMet enc Tryz.prog Tryz.f9 (OpenSpec.ofChange Rows.buildBoolsSpec) false w args) (Rows.buildBoolsSpec.post enc Tryz.prog Tryz.f9 false true false false) := by
  refine returnsInHanded_of_change_and (C := Tryz.checked) (X := fun w _ => laidMetH Tryz.prog Val.laidB w) (fun _ _ _ hh h => h.of_heap hh) own started (by kernel_rfl) Tryz.func9
    (ChangeSpec.witness_shaped (enc := enc) (C := Tryz.checked) (os := os) (X := fun w _ => laidMetH Tryz.prog Val.laidB w) false (World.doorLaid Tryz.prog 400 os) #[.int .i64 0, .int .i64 0] 8 rfl (World.shaped_of_RefB (by kernel_rfl) (by kernel_rfl)) (by kernel_rfl) (by kernel_rfl) (by kernel_rfl) (Val.doorB_met os _)) ?_
  intro W base args ds gs before hval0 hW hcnd hsz0 hL _
  have hsz : (DataW.weightsEach Tryz.prog (Tryz.f9.params.toList ++ Rows.buildBoolsSpec.plain.varTypes Tryz.prog) (ds ++ gs)).all (· ≤ reachBytes) = true := hsz0
  clear hsz0
  have hval : ∀ (j : Nat) t v, Tryz.f9.params[j]? = some t → args[j]? = some v → Value.okWide Tryz.prog W .any base t v := hval0
  have hW' := hW
  obtain ⟨p, q, hA0, hV, rfl, hfz, hnd⟩ := hW
  have hA : DataW.TrodAll enc Tryz.prog W 0 (fun _ => true) true Tryz.f9.params.toList args.toList ds p := hA0
  rw [Tryz.params9] at hA hval hsz
  obtain ⟨v0, vs0, d0, ds0, p0, q0, hargs, rfl, rfl, h0, r0⟩ := trodAll_cons hA
  obtain ⟨v1, vs1, d1, ds1, p1, q1, rfl, rfl, rfl, h1, r1⟩ := trodAll_cons r0
  obtain ⟨rfl, rfl, rfl⟩ := trodAll_nil r1
  obtain rfl : args = #[v0, v1] := by cases args; simp_all
  obtain ⟨rfl, rfl⟩ := trodVars_none hV
  obtain ⟨a0, rfl, rfl, rfl, hp0⟩ := open_int Tryz.underlying3 (hval 0 3 v0 rfl rfl) h0
  obtain ⟨a1, rfl, rfl, rfl, hp1⟩ := open_int Tryz.underlying3 (hval 1 3 v1 rfl rfl) h1
  clear hA0 hval0
  refine (walk a0 a1 W (Val.homeB_of hL) hp0 hp1).mono fun e W' ⟨he, bel⟩ => ?_
  subst he
  exact ⟨_, rfl, _, _, _, [], _, [], hW', trodAll_mk1 (shut_bool Tryz.underlying4 _), (trodAll_cons_mk (shut_int Tryz.underlying3 hp0) (trodAll_cons_mk (shut_int Tryz.underlying3 hp1) trodAll_mk0)), rfl, bel.frame _, fun h => by cases h⟩

end Go.Proofs.YtcpfhfdgfcilaaaGreatDoor.buildBools
