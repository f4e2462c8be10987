/-
  ReadUnder: what lies beneath a row that is not there is nothing to what is read; for every input within reach.
-/
import Derived.Test.YtcpfhfdgfcilaaaGreatDoorRows
import Derived.WalkKit
import Derived.ProofKit
import Derived.OpenShut
import Derived.ShutString
import Derived.ChangeOld
import Derived.Below
import Derived.SizedLaws
import Derived.Deep.QuietTactic
import Derived.WalkSmall
import Derived.BigQuiet
import Derived.Deep.RegionWith
import Derived.OwnWalk
import Derived.RegionTactic
import Derived.ChangeAlike
import Derived.Deep.CutBlock
import Derived.Maps.AppendAt
import Derived.OneCell
import Derived.LaidMore
import Derived.Stop.Joined
import Derived.SevenTiedAt
import Derived.Test.YtcpfhfdgfcilaaaGreatDoorCards
import Derived.Test.YtcpfhfdgfcilaaaGreatDoorTie
import Derived.Test.YtcpfhfdgfcilaaaGreatDoorR01
import Derived.Test.YtcpfhfdgfcilaaaGreatDoorR02
import Derived.Test.YtcpfhfdgfcilaaaGreatDoorR09
import Derived.Test.YtcpfhfdgfcilaaaGreatDoorR11
import Derived.Test.YtcpfhfdgfcilaaaGreatDoorR12
import Derived.Test.YtcpfhfdgfcilaaaGreatDoorR15
import Derived.Test.YtcpfhfdgfcilaaaGreatDoorR13
import Derived.Test.YtcpfhfdgfcilaaaGreatDoorR14
import Derived.Test.YtcpfhfdgfcilaaaGreatDoorR17
import Derived.Test.YtcpfhfdgfcilaaaGreatDoorR24
import Derived.Test.YtcpfhfdgfcilaaaGreatDoorR32
namespace Go.Proofs.YtcpfhfdgfcilaaaGreatDoor.readUnder
open Go.ChangeShapes Go.WideShapes Go.ChangeAt Go.RowKit
open Go.ChangeMaps (open_string shut_string)
set_option linter.unusedVariables false

theorem own : ownKnob Tryz.prog.godebug = none := by kernel_rfl
theorem laidOut : laidOutB Tryz.prog = true := by kernel_rfl
/-- A row of numbers came in. -/
def IsRow (k : IntKind) (w : World) (a : Option Addr) (len cap : Nat) (zs : List Int) : Prop :=
  (a = none ∧ len = 0 ∧ cap = 0 ∧ zs = []) ∨ ∃ x, a = some x ∧ len ≤ cap ∧ cap ≤ maxLen ∧ zs.length = cap ∧ (∀ j z, zs[j]? = some z → w.cell? (x.add j) = some (.int k z)) ∧ (∀ z ∈ zs, (Lit.int k z).wf = true)

open Tree Arr
theorem unN_lies {w : World} {g : Nat} (h : w.heap[g]? = some (.cells #[.int .i64 0, .int .i64 (-1), .bool true] 40)) : Lies w ⟨g, 0, none⟩ unN := by
  have hc : ∀ (j : Nat) v, (#[Value.int .i64 0, .int .i64 (-1), .bool true] : Array Value)[j]? = some v → w.cell? ⟨g, j, none⟩ = some v := fun j v hv => by simp only [World.cell?, h]; exact hv
  constructor
  · intro i hi
    have hi : i < 1 := hi
    rw [add0]
    match i, hi with
    | 0, _ => exact hc 0 _ rfl
  · intro i hi
    have hi : i < 1 := hi
    match i, hi with
    | 0, _ => exact hc 1 _ rfl
  · intro i hi
    have hi : i < 1 := hi
    match i, hi with
    | 0, _ => exact hc 2 _ rfl
theorem row_at {w : World} {a : Option Addr} {len cap : Nat} {zs : List Int} (h : IsRow .i64 w a len cap zs) : len ≤ maxLen ∧ ∀ j, j < len → ∃ x, a = some x ∧ w.cell? (x.add j) = some (.int .i64 (zs.getD j 0)) ∧ Val.in64 (zs.getD j 0) := by
  rcases h with ⟨_, rfl, _, _⟩ | ⟨x, e, h1, h2, h3, h4, h5⟩
  · exact ⟨Nat.zero_le _, fun j hj => absurd hj (Nat.not_lt_zero j)⟩
  · refine ⟨by omega, fun j hj => ⟨x, e, ?_⟩⟩
    have hz : zs[j]? = some (zs.getD j 0) := by
      rw [List.getD_eq_getElem?_getD, List.getElem?_eq_getElem (by omega)]
      rfl
    have hw := h5 _ (List.mem_of_getElem? hz)
    generalize zs.getD j 0 = z at *
    refine ⟨h4 j _ hz, ?_⟩
    unfold Val.in64
    simp [Lit.wf, IntKind.min, IntKind.max, IntKind.signed, IntKind.bits] at hw
    omega
set_option maxRecDepth 20000 in
set_option maxHeartbeats 4000000 in
theorem walk (a0 : Option Addr) (len0 cap0 : Nat) (z0 : List Int) (a1 : Int) (a2 : Int) (w : World) (hw : Hid (Val.Home w)) (hp0 : IsRow .i64 w a0 len0 cap0 z0) (hs0 : cap0 * 8 ≤ 140737488351232) (hp1 : (Lit.int .i64 a1).wf = true) (hp2 : (Lit.int .i64 a2).wf = true) :
    Calls Tryz.prog 4 #[.slice a0 len0 cap0, .int .i64 a1, .int .i64 a2] w fun e w' => e = .returned (.bool true) ∧ Below w.heap.size w w' := by
  obtain ⟨hlen, hrow⟩ := row_at hp0
  have HR : Hid (∀ j, j < len0 → ∃ x, a0 = some x ∧ w.cell? (x.add j) = some (.int .i64 (z0.getD j 0)) ∧ Val.in64 (z0.getD j 0)) := hrow
  have HLE : Hid (len0 ≤ maxLen) := hlen
  clear hp0 hs0 hrow hp1 hp2
  go_enter Tryz.func4, Tryz.ntmps4
  go_wp2_with fail
  refine (awakeR w hw).mono ?_
  rintro e w1 ⟨rfl, b1⟩
  have B1 : Hid (Below w.heap.size w w1) := b1
  obtain ⟨w2, e1, hT1, b12⟩ : ∃ w2, w1.alloc (.cells #[.int .i64 0, .int .i64 (-1), .bool true] 40) = w2 ∧ w2.heap[w1.heap.size]? = some (.cells #[.int .i64 0, .int .i64 (-1), .bool true] 40) ∧ Below w1.heap.size w1 w2 := ⟨_, rfl, heap_alloc_new _ _, (Below.refl _ _).alloc (Nat.le_refl _) _⟩
  obtain ⟨w3, e2, s2, c2, b2⟩ := boxed w2 (.slice none 0 0) 24
  have hf2 : w3.heap[w2.heap.size]? = some (.cells #[.slice none 0 0] 24) := by rw [← e2]; exact heap_alloc_new _ _
  have z2 : w3.frozen? ⟨w2.heap.size, 0, none⟩ = false := by simp [World.frozen?, hf2]
  obtain ⟨w4, e3⟩ : ∃ w4, w3.setCell ⟨w2.heap.size, 0, none⟩ (.slice (some ⟨w1.heap.size, 0, none⟩) 1 1) = w4 := ⟨_, rfl⟩
  have b24 : Below w2.heap.size w2 w4 := by rw [← e3]; exact b2.setCell (Nat.le_refl _) _
  have HT4 : Hid (w4.cell? ⟨w2.heap.size, 0, none⟩ = some (.slice (some ⟨w1.heap.size, 0, none⟩) 1 1)) := by
    have := blk_set hf2 0 (.slice (some ⟨w1.heap.size, 0, none⟩) 1 1)
    rw [e3] at this
    unfold Hid
    simp [World.cell?, this]
  have B4 : Hid (Below w.heap.size w w4) := Arr.bel2 B1.out (Arr.bel2 b12 b24)
  have HI4 : Hid (IsT w4 (some ⟨w1.heap.size, 0, none⟩) unN) := ⟨by decide, .inr ⟨_, rfl, (unN_lies hT1).later b24⟩⟩
  clear hT1 b12 b2 hf2 s2 b24 b1
  go_upto_region 4 with fail
  try rw [e3]
  clear e1 e2 e3 c2 z2
  obtain ⟨w5, ew5', xw5, bw5, zw5⟩ := box7 w4 nil none 0
  have ew5 : w4.alloc (.cells #[.int .i64 0, .int .i64 0, .int .i64 0, .string ⟨#[]⟩, .string ⟨#[]⟩, .string ⟨#[]⟩, .slice none 0 0] 27) = w5 := ew5'
  have m0 := xw5.c0
  have m1 := xw5.c1
  have m2 := xw5.c2
  have m3 := xw5.c3
  have m4 := xw5.c4
  have m5 := xw5.c5
  have m6 := xw5.c6
  have f0 := xw5.fz 0
  have f1 := xw5.fz 1
  have f2 := xw5.fz 2
  have f3 := xw5.fz 3
  have f4 := xw5.fz 4
  have f5 := xw5.fz 5
  have f6 := xw5.fz 6
  unfold nil at m0 m1 m2 m3 m4 m5 m6
  obtain ⟨w6, ew6', xw6, hw6, kw6⟩ := set7 xw5 nil none 0
  have ew6 : (((((((w5).setCell ⟨w4.heap.size, 0, none⟩ (.int .i64 0)).setCell ⟨w4.heap.size, 1, none⟩ (.int .i64 0)).setCell ⟨w4.heap.size, 2, none⟩ (.int .i64 0)).setCell ⟨w4.heap.size, 3, none⟩ (.string ⟨#[]⟩)).setCell ⟨w4.heap.size, 4, none⟩ (.string ⟨#[]⟩)).setCell ⟨w4.heap.size, 5, none⟩ (.string ⟨#[]⟩)).setCell ⟨w4.heap.size, 6, none⟩ (.slice none 0 0) = w6 := ew6'
  have XA6 : Hid (Bx w6 w4.heap.size (unA ⟨#[]⟩ ⟨#[]⟩ 0) none 0) := xw6
  have B46 : Hid (Below w4.heap.size w4 w6) := bw5.trans (kw6 _ (Nat.le_refl _))
  go_upto_region 5 with fail
  try rw [ew6]
  clear ew5 ew5' xw5 bw5 zw5 m0 m1 m2 m3 m4 m5 m6 f0 f1 f2 f3 f4 f5 f6 ew6 ew6' xw6 hw6 kw6
  obtain ⟨w7, ew7', xw7, bw7, zw7⟩ := box7 w6 nil none 0
  have ew7 : w6.alloc (.cells #[.int .i64 0, .int .i64 0, .int .i64 0, .string ⟨#[]⟩, .string ⟨#[]⟩, .string ⟨#[]⟩, .slice none 0 0] 27) = w7 := ew7'
  have m0 := xw7.c0
  have m1 := xw7.c1
  have m2 := xw7.c2
  have m3 := xw7.c3
  have m4 := xw7.c4
  have m5 := xw7.c5
  have m6 := xw7.c6
  have f0 := xw7.fz 0
  have f1 := xw7.fz 1
  have f2 := xw7.fz 2
  have f3 := xw7.fz 3
  have f4 := xw7.fz 4
  have f5 := xw7.fz 5
  have f6 := xw7.fz 6
  unfold nil at m0 m1 m2 m3 m4 m5 m6
  obtain ⟨w8, ew8', xw8, hw8, kw8⟩ := set7 xw7 nil none 0
  have ew8 : (((((((w7).setCell ⟨w6.heap.size, 0, none⟩ (.int .i64 0)).setCell ⟨w6.heap.size, 1, none⟩ (.int .i64 0)).setCell ⟨w6.heap.size, 2, none⟩ (.int .i64 0)).setCell ⟨w6.heap.size, 3, none⟩ (.string ⟨#[]⟩)).setCell ⟨w6.heap.size, 4, none⟩ (.string ⟨#[]⟩)).setCell ⟨w6.heap.size, 5, none⟩ (.string ⟨#[]⟩)).setCell ⟨w6.heap.size, 6, none⟩ (.slice none 0 0) = w8 := ew8'
  have XB8 : Hid (Bx w8 w6.heap.size (unA ⟨#[]⟩ ⟨#[]⟩ 0) none 0) := xw8
  have B68 : Hid (Below w6.heap.size w6 w8) := bw7.trans (kw8 _ (Nat.le_refl _))
  go_upto_region 6 with fail
  try rw [ew8]
  clear ew7 ew7' xw7 bw7 zw7 m0 m1 m2 m3 m4 m5 m6 f0 f1 f2 f3 f4 f5 f6 ew8 ew8' xw8 hw8 kw8
  have XA8 : Hid (Bx w8 w4.heap.size (unA ⟨#[]⟩ ⟨#[]⟩ 0) none 0) := XA6.out.later B68.out
  have B48 : Hid (Below w4.heap.size w4 w8) := Arr.bel2 B46.out B68.out
  have L46 : Hid (w4.heap.size < w6.heap.size) := XA6.out.lt
  have L68 : Hid (w6.heap.size < w8.heap.size) := XB8.out.lt
  obtain ⟨X, hX⟩ : ∃ X : Nat → Int, X = fun j => z0.getD j 0 := ⟨_, rfl⟩
  have HR2 : Hid (∀ j, j < len0 → ∃ x, a0 = some x ∧ w.cell? (x.add j) = some (.int .i64 (X j)) ∧ Val.in64 (X j)) := by rw [hX]; exact HR.out
  clear hX HR
  obtain ⟨Y, hY⟩ : ∃ Y : Nat → Int, Y = fun j => if bitI a1 j then X j else bits .xor .i64 (X j) a2 := ⟨_, rfl⟩
  have HYT : Hid (∀ j, bitI a1 j = true → Y j = X j) := fun j h => by rw [hY]; exact if_pos h
  have HYF : Hid (∀ j, bitI a1 j = false → Y j = bits .xor .i64 (X j) a2) := fun j h => by rw [hY]; exact if_neg (by rw [h]; decide)
  clear hY
  obtain ⟨i9, hi, hz0, hz1, hz2⟩ := info_parts info9
  have HLN : Hid ((len0 : Int) ≤ 9223372036854775807) := by unfold Hid; have := HLE.out; unfold maxLen at this; omega
  go_wp2_with fail
  go_loopw [10, 11, 12, 13, 14, 15] (fun v i _ _ _ _ wr => ∃ (m : Nat) (ov : Option Addr) (cv : Nat), m ≤ len0 ∧ m ≤ 32 ∧ i = .int .i64 (m : Int) ∧ v = .slice ov m cv ∧ wr.ownsRow w8.heap.size 9 1 (.slice ov m cv) m (Texts.cellsT (unV X (vby a1) m)) ∧ Bx wr w4.heap.size (unA ⟨#[]⟩ (mk (unD X m)) m) none 0 ∧ Bx wr w6.heap.size (unA ⟨#[]⟩ (mk (unD Y m)) m) none 0 ∧ Below w4.heap.size w4 wr ∧ w8.heap.size ≤ wr.heap.size) (fun _ i _ _ _ _ _ => len0 - (intOf i).toNat)
  case atStart => exact ⟨0, none, 0, Nat.zero_le _, Nat.zero_le _, rfl, rfl, World.ownsRow_nil _ _ _ _, XA8.out, XB8.out, B48.out, Nat.le_refl _⟩
  case round =>
    obtain ⟨m, ov, cv, hm, hm32, rfl, rfl, hown, hxa, hxb, hbl, hsz⟩ := hrel
    have HOW : Hid (wr.drew.ownsRow w8.heap.size 9 1 (.slice ov m cv) m (Texts.cellsT (unV X (vby a1) m))) := World.ownsRow.drew hown
    have XAW : Hid (Bx wr.drew w4.heap.size (unA ⟨#[]⟩ (mk (unD X m)) m) none 0) := ⟨hxa.blk⟩
    have XBW : Hid (Bx wr.drew w6.heap.size (unA ⟨#[]⟩ (mk (unD Y m)) m) none 0) := ⟨hxb.blk⟩
    have BLW : Hid (Below w4.heap.size w4 wr.drew) := hbl.drew
    have HSW : Hid (w8.heap.size ≤ wr.drew.heap.size) := hsz
    have m0 : (0 : Int) ≤ (m : Int) := Int.natCast_nonneg _
    have hm63 : (m : Int) < 64 := by omega
    by_cases hlt : m < len0
    · by_cases h32 : m < 32
      · obtain ⟨x, rfl, hc, h64⟩ := HR2.out m hlt
        have hcell := cell_later (Arr.bel2 B4.out hbl) hc
        have i1 : (m : Int) < (len0 : Int) := by omega
        have i2 : (m : Int) < 32 := by omega
        clear hown hxa hxb hbl hsz hc
        obtain ⟨xm, hxm⟩ : ∃ z, X m = z := ⟨_, rfl⟩
        have HXM : Hid (X m = xm) := hxm
        rw [hxm] at hcell h64
        clear hxm
        have HHQ : Hid (Val.in64 xm) := h64
        clear h64
        go_wp2_with fail
        go_region
        generalize wr.drew = wd at *
        clear hcell
        go_wp2_with fail
        refine (Val.intR xm HHQ.out wd).mono ?_
        rintro e we ⟨rfl, be⟩
        have XAE : Hid (Bx we w4.heap.size (unA ⟨#[]⟩ (mk (unD X m)) m) none 0) := XAW.out.later be
        have XBE : Hid (Bx we w6.heap.size (unA ⟨#[]⟩ (mk (unD Y m)) m) none 0) := XBW.out.later be
        have HOE : Hid (we.ownsRow w8.heap.size 9 1 (.slice ov m cv) m (Texts.cellsT (unV X (vby a1) m))) := rowU_later HOW.out be
        have BLE : Hid (Below w4.heap.size w4 we) := Arr.bel2 BLW.out be
        have HSE : Hid (w8.heap.size ≤ we.heap.size) := Nat.le_trans HSW.out be.size
        clear XAW XBW HOW BLW HSW be
        have hand : bits .and .i64 (a1 / 2 ^ m) 1 = a1 / 2 ^ m % 2 := BitP.and_mask (a1 / 2 ^ m) 1 (by decide) 1 (by decide)
        have hbv := bit_vby a1 m h32
        cases hb : bitI a1 m
        · have hq : a1 / 2 ^ m % 2 = 0 := by
            unfold bitI at hb
            have := of_decide_eq_false hb
            omega
          have HYV : Hid (Y m = bits .xor .i64 xm a2) := by have := HYF.out m hb; rw [HXM.out] at this; exact this
          have HVV : Hid ((if BitP.bit (vby a1) m then Val.intM (X m) else Val.nullM) = Val.nullM) := if_neg (by rw [hbv, hb]; decide)
          clear hbv hb
          have hnu : mk Val.nullM = ⟨#[110]⟩ := rfl
          obtain ⟨ym, hym⟩ : ∃ z, bits .xor .i64 xm a2 = z := ⟨_, rfl⟩
          rw [hym] at HYV
          have HYM : Hid (Y m = ym) := HYV.out
          have HVM : Hid ((if BitP.bit (vby a1) m then Val.intM (X m) else Val.nullM) = Val.nullM) := HVV.out
          have Q1 : Hid (Bx we w4.heap.size (unA ⟨#[]⟩ (mk (unD X m ++ Plain.low (uw64 xm) 0)) m) none 0) := by rw [low0]; exact XAE.out
          have Q2 : Hid (Bx we w6.heap.size (unA ⟨#[]⟩ (mk (unD Y m ++ Plain.low (uw64 ym) 0)) m) none 0) := by rw [low0]; exact XBE.out
          clear XAE XBE HYV HVV
          go_wp2_with fail
          go_loopw [15] (fun kk wr => ∃ k : Nat, k ≤ 8 ∧ kk = .int .i64 (k : Int) ∧ Bx wr w4.heap.size (unA ⟨#[]⟩ (mk (unD X m ++ Plain.low (uw64 xm) k)) m) none 0 ∧ Bx wr w6.heap.size (unA ⟨#[]⟩ (mk (unD Y m ++ Plain.low (uw64 ym) k)) m) none 0 ∧ Below w4.heap.size w4 wr ∧ wr.ownsRow w8.heap.size 9 1 (.slice ov m cv) m (Texts.cellsT (unV X (vby a1) m)) ∧ w8.heap.size ≤ wr.heap.size) (fun kk _ => 8 - (intOf kk).toNat)
          case atStart => exact ⟨0, Nat.zero_le _, rfl, Q1.out, Q2.out, BLE.out, HOE.out, HSE.out⟩
          case round =>
            clear Q1 Q2 BLE HOE HSE
            obtain ⟨k, hk8, rfl, hxa, hxb, hbl, hown, hsz⟩ := hrel
            have XAr : Hid (Bx wr w4.heap.size (unA ⟨#[]⟩ (mk (unD X m ++ Plain.low (uw64 xm) k)) m) none 0) := hxa
            have XBr : Hid (Bx wr w6.heap.size (unA ⟨#[]⟩ (mk (unD Y m ++ Plain.low (uw64 ym) k)) m) none 0) := hxb
            have BLwr : Hid (Below w4.heap.size w4 wr) := hbl
            have HOwr : Hid (wr.ownsRow w8.heap.size 9 1 (.slice ov m cv) m (Texts.cellsT (unV X (vby a1) m))) := hown
            have HSwr : Hid (w8.heap.size ≤ wr.heap.size) := hsz
            clear hxa hxb hbl hown hsz
            have k0 : (0 : Int) ≤ (k : Int) := Int.natCast_nonneg _
            by_cases hk : k < 8
            · skip
              have hbyp := byte_k xm k hk
              have HNp : Hid ((mk (unD X m ++ Plain.low (uw64 xm) k)) ++ mk [UInt8.ofNat (uw64 xm / 256 ^ k)] = (mk (unD X m ++ Plain.low (uw64 xm) (k + 1)))) := low_next X xm m k
              have HZp : Hid ((mk (unD X m ++ Plain.low (uw64 xm) k)).size ≤ 1000) := by unfold Hid; rw [size_low]; omega
              generalize UInt8.ofNat (uw64 xm / 256 ^ k) = byp at *
              generalize (mk (unD X m ++ Plain.low (uw64 xm) k)) = dp at *
              have hbk := one_drew wr byp
              have d5 : wr.cell? ⟨w4.heap.size, 5, none⟩ = some (.string dp) := XAr.out.c5
              have f5 : wr.frozen? ⟨w4.heap.size, 5, none⟩ = false := XAr.out.fz 5
              have hz : ¬ 9223372036854775807 < dp.size + (mk [byp]).size := by have := HZp.out; rw [sizeU]; show ¬ 9223372036854775807 < dp.size + 1; omega
              have SAp : Hid (w8.heap.size ≤ (wr.alloc (.cells #[.int .u8 ((byp.toNat : Nat) : Int)] 5)).heap.size) := by have := HSwr.out; unfold Hid; simp; omega
              have BAp : Below wr.heap.size wr (wr.alloc (.cells #[.int .u8 ((byp.toNat : Nat) : Int)] 5)) := (Below.refl _ _).alloc (Nat.le_refl _) _
              have X1p : Hid (Bx (((wr.alloc (.cells #[.int .u8 ((byp.toNat : Nat) : Int)] 5)).setCell ⟨w4.heap.size, 5, none⟩ (.string (dp ++ mk [byp]))).drew) w4.heap.size (unA ⟨#[]⟩ (mk (unD X m ++ Plain.low (uw64 xm) (k + 1))) m) none 0) := by rw [← HNp.out]; exact ⟨(bx_set5 (XAr.out.later BAp)).blk⟩
              have X2p : Hid (Bx (((wr.alloc (.cells #[.int .u8 ((byp.toNat : Nat) : Int)] 5)).setCell ⟨w4.heap.size, 5, none⟩ (.string (dp ++ mk [byp]))).drew) w6.heap.size (unA ⟨#[]⟩ (mk (unD Y m ++ Plain.low (uw64 ym) k)) m) none 0) := ⟨(bx_other (XBr.out.later BAp) (by have := L46.out; omega)).blk⟩
              have BLp : Hid (Below w4.heap.size w4 (((wr.alloc (.cells #[.int .u8 ((byp.toNat : Nat) : Int)] 5)).setCell ⟨w4.heap.size, 5, none⟩ (.string (dp ++ mk [byp]))).drew)) := ((BLwr.out.alloc (by have := HSwr.out; have := L68.out; have := L46.out; omega) _).setCell (p := ⟨w4.heap.size, 5, none⟩) (by have := L46.out; show w4.heap.size ≤ w4.heap.size; omega) _).drew
              have OWp : Hid ((((wr.alloc (.cells #[.int .u8 ((byp.toNat : Nat) : Int)] 5)).setCell ⟨w4.heap.size, 5, none⟩ (.string (dp ++ mk [byp]))).drew).ownsRow w8.heap.size 9 1 (.slice ov m cv) m (Texts.cellsT (unV X (vby a1) m))) := (ownsRow_setCell_below (HOwr.out.alloc _) (by have := L46.out; have := L68.out; show w4.heap.size < w8.heap.size; omega) _).drew
              have HSws : Hid (w8.heap.size ≤ (((wr.alloc (.cells #[.int .u8 ((byp.toNat : Nat) : Int)] 5)).setCell ⟨w4.heap.size, 5, none⟩ (.string (dp ++ mk [byp]))).drew).heap.size) := by have := SAp.out; unfold Hid; simpa [World.setCell, World.drew] using this
              have d5b : (wr.alloc (.cells #[.int .u8 ((byp.toNat : Nat) : Int)] 5)).cell? ⟨w4.heap.size, 5, none⟩ = some (.string dp) := (XAr.out.later BAp).c5
              have f5b : (wr.alloc (.cells #[.int .u8 ((byp.toNat : Nat) : Int)] 5)).frozen? ⟨w4.heap.size, 5, none⟩ = false := (XAr.out.later BAp).fz 5
              clear BAp HNp HZp SAp
              have h8 : ((8 : Int) * (k : Int)).toNat = 8 * k := by omega
              go_wp2_with fail
              go_region
              generalize (((wr.alloc (.cells #[.int .u8 ((byp.toNat : Nat) : Int)] 5)).setCell ⟨w4.heap.size, 5, none⟩ (.string (dp ++ mk [byp]))).drew) = ws at *
              clear hbyp hbk d5 f5 d5b f5b hz h8
              have BLws : Hid (Below w4.heap.size w4 ws) := BLp
              have HOws : Hid (ws.ownsRow w8.heap.size 9 1 (.slice ov m cv) m (Texts.cellsT (unV X (vby a1) m))) := OWp
              clear BLp OWp
              have hbyq := byte_k ym k hk
              have HNq : Hid ((mk (unD Y m ++ Plain.low (uw64 ym) k)) ++ mk [UInt8.ofNat (uw64 ym / 256 ^ k)] = (mk (unD Y m ++ Plain.low (uw64 ym) (k + 1)))) := low_next Y ym m k
              have HZq : Hid ((mk (unD Y m ++ Plain.low (uw64 ym) k)).size ≤ 1000) := by unfold Hid; rw [size_low]; omega
              generalize UInt8.ofNat (uw64 ym / 256 ^ k) = byq at *
              generalize (mk (unD Y m ++ Plain.low (uw64 ym) k)) = dq at *
              have hbk := one_drew ws byq
              have d5 : ws.cell? ⟨w6.heap.size, 5, none⟩ = some (.string dq) := X2p.out.c5
              have f5 : ws.frozen? ⟨w6.heap.size, 5, none⟩ = false := X2p.out.fz 5
              have hz : ¬ 9223372036854775807 < dq.size + (mk [byq]).size := by have := HZq.out; rw [sizeU]; show ¬ 9223372036854775807 < dq.size + 1; omega
              have SAq : Hid (w8.heap.size ≤ (ws.alloc (.cells #[.int .u8 ((byq.toNat : Nat) : Int)] 5)).heap.size) := by have := HSws.out; unfold Hid; simp; omega
              have BAq : Below ws.heap.size ws (ws.alloc (.cells #[.int .u8 ((byq.toNat : Nat) : Int)] 5)) := (Below.refl _ _).alloc (Nat.le_refl _) _
              have X1q : Hid (Bx (((ws.alloc (.cells #[.int .u8 ((byq.toNat : Nat) : Int)] 5)).setCell ⟨w6.heap.size, 5, none⟩ (.string (dq ++ mk [byq]))).drew) w6.heap.size (unA ⟨#[]⟩ (mk (unD Y m ++ Plain.low (uw64 ym) (k + 1))) m) none 0) := by rw [← HNq.out]; exact ⟨(bx_set5 (X2p.out.later BAq)).blk⟩
              have X2q : Hid (Bx (((ws.alloc (.cells #[.int .u8 ((byq.toNat : Nat) : Int)] 5)).setCell ⟨w6.heap.size, 5, none⟩ (.string (dq ++ mk [byq]))).drew) w4.heap.size (unA ⟨#[]⟩ (mk (unD X m ++ Plain.low (uw64 xm) (k + 1))) m) none 0) := ⟨(bx_other (X1p.out.later BAq) (by have := L46.out; omega)).blk⟩
              have BLq : Hid (Below w4.heap.size w4 (((ws.alloc (.cells #[.int .u8 ((byq.toNat : Nat) : Int)] 5)).setCell ⟨w6.heap.size, 5, none⟩ (.string (dq ++ mk [byq]))).drew)) := ((BLws.out.alloc (by have := HSws.out; have := L68.out; have := L46.out; omega) _).setCell (p := ⟨w6.heap.size, 5, none⟩) (by have := L46.out; show w4.heap.size ≤ w6.heap.size; omega) _).drew
              have OWq : Hid ((((ws.alloc (.cells #[.int .u8 ((byq.toNat : Nat) : Int)] 5)).setCell ⟨w6.heap.size, 5, none⟩ (.string (dq ++ mk [byq]))).drew).ownsRow w8.heap.size 9 1 (.slice ov m cv) m (Texts.cellsT (unV X (vby a1) m))) := (ownsRow_setCell_below (HOws.out.alloc _) (by have := L46.out; have := L68.out; show w6.heap.size < w8.heap.size; omega) _).drew
              have HSwt : Hid (w8.heap.size ≤ (((ws.alloc (.cells #[.int .u8 ((byq.toNat : Nat) : Int)] 5)).setCell ⟨w6.heap.size, 5, none⟩ (.string (dq ++ mk [byq]))).drew).heap.size) := by have := SAq.out; unfold Hid; simpa [World.setCell, World.drew] using this
              have d5b : (ws.alloc (.cells #[.int .u8 ((byq.toNat : Nat) : Int)] 5)).cell? ⟨w6.heap.size, 5, none⟩ = some (.string dq) := (X2p.out.later BAq).c5
              have f5b : (ws.alloc (.cells #[.int .u8 ((byq.toNat : Nat) : Int)] 5)).frozen? ⟨w6.heap.size, 5, none⟩ = false := (X2p.out.later BAq).fz 5
              clear BAq HNq HZq SAq
              have h8 : ((8 : Int) * (k : Int)).toNat = 8 * k := by omega
              go_wp2_with fail
              go_region
              generalize (((ws.alloc (.cells #[.int .u8 ((byq.toNat : Nat) : Int)] 5)).setCell ⟨w6.heap.size, 5, none⟩ (.string (dq ++ mk [byq]))).drew) = wt at *
              clear hbyq hbk d5 f5 d5b f5b hz h8
              go_wp2
              go_roundw
              case rel => exact ⟨k + 1, by omega, by go_num, X2q.out, X1q.out, BLq.out, OWq.out, HSwt.out⟩
              case measure => simp [intOf]; omega
            · obtain rfl : k = 8 := by omega
              have XA9 : Hid (Bx wr w4.heap.size (unA ⟨#[]⟩ (mk (unD X (m + 1))) m) none 0) := by have := XAr.out; rw [low8 X xm m HXM.out] at this; exact this
              have XB9 : Hid (Bx wr w6.heap.size (unA ⟨#[]⟩ (mk (unD Y (m + 1))) m) none 0) := by have := XBr.out; rw [low8 Y ym m HYM.out] at this; exact this
              clear XAr XBr
              have d2 : wr.cell? ⟨w4.heap.size, 2, none⟩ = some (.int .i64 (m : Int)) := XA9.out.c2
              have f2 : wr.frozen? ⟨w4.heap.size, 2, none⟩ = false := XA9.out.fz 2
              obtain ⟨wf, ef⟩ : ∃ v, wr.setCell ⟨w4.heap.size, 2, none⟩ (.int .i64 ((m : Int) + 1)) = v := ⟨_, rfl⟩
              have XAf : Hid (Bx wf w4.heap.size (unA ⟨#[]⟩ (mk (unD X (m + 1))) (m + 1)) none 0) := by rw [← ef]; exact bx_set2 XA9.out
              have XBf : Hid (Bx wf w6.heap.size (unA ⟨#[]⟩ (mk (unD Y (m + 1))) m) none 0) := by rw [← ef]; exact bx_other XB9.out (by have := L46.out; omega)
              have BLf : Hid (Below w4.heap.size w4 wf) := by rw [← ef]; exact BLwr.out.setCell (p := ⟨w4.heap.size, 2, none⟩) (Nat.le_refl _) _
              have HOf : Hid (wf.ownsRow w8.heap.size 9 1 (.slice ov m cv) m (Texts.cellsT (unV X (vby a1) m))) := by rw [← ef]; exact ownsRow_setCell_below HOwr.out (by have := L46.out; have := L68.out; show w4.heap.size < w8.heap.size; omega) _
              have HSf : Hid (w8.heap.size ≤ wf.heap.size) := by have := HSwr.out; unfold Hid; rw [← ef]; simpa [World.setCell] using this
              clear XA9 XB9 BLwr HOwr HSwr
              go_upto_region 21 with fail
              try rw [ef]
              clear ef d2 f2
              have d2 : wf.cell? ⟨w6.heap.size, 2, none⟩ = some (.int .i64 (m : Int)) := XBf.out.c2
              have f2 : wf.frozen? ⟨w6.heap.size, 2, none⟩ = false := XBf.out.fz 2
              obtain ⟨wg, eg⟩ : ∃ v, wf.setCell ⟨w6.heap.size, 2, none⟩ (.int .i64 ((m : Int) + 1)) = v := ⟨_, rfl⟩
              have XAg : Hid (Bx wg w4.heap.size (unA ⟨#[]⟩ (mk (unD X (m + 1))) (m + 1)) none 0) := by rw [← eg]; exact bx_other XAf.out (by have := L46.out; omega)
              have XBg : Hid (Bx wg w6.heap.size (unA ⟨#[]⟩ (mk (unD Y (m + 1))) (m + 1)) none 0) := by rw [← eg]; exact bx_set2 XBf.out
              have BLg : Hid (Below w4.heap.size w4 wg) := by rw [← eg]; exact BLf.out.setCell (p := ⟨w6.heap.size, 2, none⟩) (by have := L46.out; show w4.heap.size ≤ w6.heap.size; omega) _
              have HOg : Hid (wg.ownsRow w8.heap.size 9 1 (.slice ov m cv) m (Texts.cellsT (unV X (vby a1) m))) := by rw [← eg]; exact ownsRow_setCell_below HOf.out (by have := L46.out; have := L68.out; show w6.heap.size < w8.heap.size; omega) _
              have HSg : Hid (w8.heap.size ≤ wg.heap.size) := by have := HSf.out; unfold Hid; rw [← eg]; simpa [World.setCell] using this
              clear XAf XBf BLf HOf HSf
              go_upto_region 22 with fail
              try rw [eg]
              clear eg d2 f2
              have hown := HOg.out
              have hz := HSg.out
              go_wp2_with (at_builtin; refine wpList_append_own _ rfl (.tmp 89) (.tmp 91) 29 rfl w8.heap.size 9 i9 (.string ⟨#[]⟩) 1 16 Tryz.underlying29 hi hz0 hz1 hz2 rfl (by decide) _ m _ rfl (hown.alloc _) ⟨wg.heap.size, 0, none⟩ 1 1 [.string (mk (Val.nullM))] rfl rfl ?c1 ?c2 ?c3 ?c4 ?c5 ?_)
              case c1 =>
                intro j u hj
                match j, hj with
                | 0, hj => simp at hj; subst hj; simp [Addr.add]; rfl
              case c2 => intro u hu; simp at hu; subst hu; rfl
              case c3 => unfold maxLen; omega
              case c4 => omega
              case c5 => simp; omega
              intro u6 wz hown6 hgrow _
              have BZ : Hid (Below w8.heap.size wg wz) := ((Below.refl w8.heap.size wg).alloc hz _).grown hgrow (by simp; omega) (fun j hj => (hown.lt j hj).1)
              have BLz : Hid (Below w4.heap.size w4 wz) := (BLg.out.alloc (by have := L46.out; have := L68.out; omega) _).grown hgrow (by have := L46.out; have := L68.out; simp; omega) (fun j hj => by have := (hown.lt j hj).1; have := L46.out; have := L68.out; omega)
              obtain ⟨o6, c6, rfl⟩ := ownsRow_len hown6
              have HOz : Hid (wz.ownsRow w8.heap.size 9 1 (.slice o6 (m + 1) c6) (m + 1) (Texts.cellsT (unV X (vby a1) (m + 1)))) := by
                unfold Hid
                rw [unV_succ, HVM.out]
                exact hown6
              have XAz : Hid (Bx wz w4.heap.size (unA ⟨#[]⟩ (mk (unD X (m + 1))) (m + 1)) none 0) := bx_low XAg.out BZ.out (by have := L46.out; have := L68.out; omega)
              have XBz : Hid (Bx wz w6.heap.size (unA ⟨#[]⟩ (mk (unD Y (m + 1))) (m + 1)) none 0) := bx_low XBg.out BZ.out L68.out
              have HSz : Hid (w8.heap.size ≤ wz.heap.size) := Nat.le_trans hz BZ.out.size
              clear hown6 hgrow hown hz
              go_wp2
              go_roundw
              case rel => exact ⟨m + 1, o6, c6, by omega, by omega, by go_num, rfl, HOz.out, XAz.out, XBz.out, BLz.out, HSz.out⟩
              case measure => simp [intOf]; omega
        · have hq : a1 / 2 ^ m % 2 = 1 := by
            unfold bitI at hb
            exact of_decide_eq_true hb
          have HYV : Hid (Y m = xm) := by have := HYT.out m hb; rw [HXM.out] at this; exact this
          have HVV : Hid ((if BitP.bit (vby a1) m then Val.intM (X m) else Val.nullM) = Val.intM xm) := by unfold Hid; rw [if_pos (by rw [hbv]; exact hb), HXM.out]
          clear hbv hb
          have HYM : Hid (Y m = xm) := HYV.out
          have HVM : Hid ((if BitP.bit (vby a1) m then Val.intM (X m) else Val.nullM) = Val.intM xm) := HVV.out
          have Q1 : Hid (Bx we w4.heap.size (unA ⟨#[]⟩ (mk (unD X m ++ Plain.low (uw64 xm) 0)) m) none 0) := by rw [low0]; exact XAE.out
          have Q2 : Hid (Bx we w6.heap.size (unA ⟨#[]⟩ (mk (unD Y m ++ Plain.low (uw64 xm) 0)) m) none 0) := by rw [low0]; exact XBE.out
          clear XAE XBE HYV HVV
          go_wp2_with fail
          go_loopw [15] (fun kk wr => ∃ k : Nat, k ≤ 8 ∧ kk = .int .i64 (k : Int) ∧ Bx wr w4.heap.size (unA ⟨#[]⟩ (mk (unD X m ++ Plain.low (uw64 xm) k)) m) none 0 ∧ Bx wr w6.heap.size (unA ⟨#[]⟩ (mk (unD Y m ++ Plain.low (uw64 xm) k)) m) none 0 ∧ Below w4.heap.size w4 wr ∧ wr.ownsRow w8.heap.size 9 1 (.slice ov m cv) m (Texts.cellsT (unV X (vby a1) m)) ∧ w8.heap.size ≤ wr.heap.size) (fun kk _ => 8 - (intOf kk).toNat)
          case atStart => exact ⟨0, Nat.zero_le _, rfl, Q1.out, Q2.out, BLE.out, HOE.out, HSE.out⟩
          case round =>
            clear Q1 Q2 BLE HOE HSE
            obtain ⟨k, hk8, rfl, hxa, hxb, hbl, hown, hsz⟩ := hrel
            have XAr : Hid (Bx wr w4.heap.size (unA ⟨#[]⟩ (mk (unD X m ++ Plain.low (uw64 xm) k)) m) none 0) := hxa
            have XBr : Hid (Bx wr w6.heap.size (unA ⟨#[]⟩ (mk (unD Y m ++ Plain.low (uw64 xm) k)) m) none 0) := hxb
            have BLwr : Hid (Below w4.heap.size w4 wr) := hbl
            have HOwr : Hid (wr.ownsRow w8.heap.size 9 1 (.slice ov m cv) m (Texts.cellsT (unV X (vby a1) m))) := hown
            have HSwr : Hid (w8.heap.size ≤ wr.heap.size) := hsz
            clear hxa hxb hbl hown hsz
            have k0 : (0 : Int) ≤ (k : Int) := Int.natCast_nonneg _
            by_cases hk : k < 8
            · skip
              have hbyp := byte_k xm k hk
              have HNp : Hid ((mk (unD X m ++ Plain.low (uw64 xm) k)) ++ mk [UInt8.ofNat (uw64 xm / 256 ^ k)] = (mk (unD X m ++ Plain.low (uw64 xm) (k + 1)))) := low_next X xm m k
              have HZp : Hid ((mk (unD X m ++ Plain.low (uw64 xm) k)).size ≤ 1000) := by unfold Hid; rw [size_low]; omega
              generalize UInt8.ofNat (uw64 xm / 256 ^ k) = byp at *
              generalize (mk (unD X m ++ Plain.low (uw64 xm) k)) = dp at *
              have hbk := one_drew wr byp
              have d5 : wr.cell? ⟨w4.heap.size, 5, none⟩ = some (.string dp) := XAr.out.c5
              have f5 : wr.frozen? ⟨w4.heap.size, 5, none⟩ = false := XAr.out.fz 5
              have hz : ¬ 9223372036854775807 < dp.size + (mk [byp]).size := by have := HZp.out; rw [sizeU]; show ¬ 9223372036854775807 < dp.size + 1; omega
              have SAp : Hid (w8.heap.size ≤ (wr.alloc (.cells #[.int .u8 ((byp.toNat : Nat) : Int)] 5)).heap.size) := by have := HSwr.out; unfold Hid; simp; omega
              have BAp : Below wr.heap.size wr (wr.alloc (.cells #[.int .u8 ((byp.toNat : Nat) : Int)] 5)) := (Below.refl _ _).alloc (Nat.le_refl _) _
              have X1p : Hid (Bx (((wr.alloc (.cells #[.int .u8 ((byp.toNat : Nat) : Int)] 5)).setCell ⟨w4.heap.size, 5, none⟩ (.string (dp ++ mk [byp]))).drew) w4.heap.size (unA ⟨#[]⟩ (mk (unD X m ++ Plain.low (uw64 xm) (k + 1))) m) none 0) := by rw [← HNp.out]; exact ⟨(bx_set5 (XAr.out.later BAp)).blk⟩
              have X2p : Hid (Bx (((wr.alloc (.cells #[.int .u8 ((byp.toNat : Nat) : Int)] 5)).setCell ⟨w4.heap.size, 5, none⟩ (.string (dp ++ mk [byp]))).drew) w6.heap.size (unA ⟨#[]⟩ (mk (unD Y m ++ Plain.low (uw64 xm) k)) m) none 0) := ⟨(bx_other (XBr.out.later BAp) (by have := L46.out; omega)).blk⟩
              have BLp : Hid (Below w4.heap.size w4 (((wr.alloc (.cells #[.int .u8 ((byp.toNat : Nat) : Int)] 5)).setCell ⟨w4.heap.size, 5, none⟩ (.string (dp ++ mk [byp]))).drew)) := ((BLwr.out.alloc (by have := HSwr.out; have := L68.out; have := L46.out; omega) _).setCell (p := ⟨w4.heap.size, 5, none⟩) (by have := L46.out; show w4.heap.size ≤ w4.heap.size; omega) _).drew
              have OWp : Hid ((((wr.alloc (.cells #[.int .u8 ((byp.toNat : Nat) : Int)] 5)).setCell ⟨w4.heap.size, 5, none⟩ (.string (dp ++ mk [byp]))).drew).ownsRow w8.heap.size 9 1 (.slice ov m cv) m (Texts.cellsT (unV X (vby a1) m))) := (ownsRow_setCell_below (HOwr.out.alloc _) (by have := L46.out; have := L68.out; show w4.heap.size < w8.heap.size; omega) _).drew
              have HSws : Hid (w8.heap.size ≤ (((wr.alloc (.cells #[.int .u8 ((byp.toNat : Nat) : Int)] 5)).setCell ⟨w4.heap.size, 5, none⟩ (.string (dp ++ mk [byp]))).drew).heap.size) := by have := SAp.out; unfold Hid; simpa [World.setCell, World.drew] using this
              have d5b : (wr.alloc (.cells #[.int .u8 ((byp.toNat : Nat) : Int)] 5)).cell? ⟨w4.heap.size, 5, none⟩ = some (.string dp) := (XAr.out.later BAp).c5
              have f5b : (wr.alloc (.cells #[.int .u8 ((byp.toNat : Nat) : Int)] 5)).frozen? ⟨w4.heap.size, 5, none⟩ = false := (XAr.out.later BAp).fz 5
              clear BAp HNp HZp SAp
              have h8 : ((8 : Int) * (k : Int)).toNat = 8 * k := by omega
              go_wp2_with fail
              go_region
              generalize (((wr.alloc (.cells #[.int .u8 ((byp.toNat : Nat) : Int)] 5)).setCell ⟨w4.heap.size, 5, none⟩ (.string (dp ++ mk [byp]))).drew) = ws at *
              clear hbyp hbk d5 f5 d5b f5b hz h8
              have BLws : Hid (Below w4.heap.size w4 ws) := BLp
              have HOws : Hid (ws.ownsRow w8.heap.size 9 1 (.slice ov m cv) m (Texts.cellsT (unV X (vby a1) m))) := OWp
              clear BLp OWp
              have hbyq := byte_k xm k hk
              have HNq : Hid ((mk (unD Y m ++ Plain.low (uw64 xm) k)) ++ mk [UInt8.ofNat (uw64 xm / 256 ^ k)] = (mk (unD Y m ++ Plain.low (uw64 xm) (k + 1)))) := low_next Y xm m k
              have HZq : Hid ((mk (unD Y m ++ Plain.low (uw64 xm) k)).size ≤ 1000) := by unfold Hid; rw [size_low]; omega
              generalize UInt8.ofNat (uw64 xm / 256 ^ k) = byq at *
              generalize (mk (unD Y m ++ Plain.low (uw64 xm) k)) = dq at *
              have hbk := one_drew ws byq
              have d5 : ws.cell? ⟨w6.heap.size, 5, none⟩ = some (.string dq) := X2p.out.c5
              have f5 : ws.frozen? ⟨w6.heap.size, 5, none⟩ = false := X2p.out.fz 5
              have hz : ¬ 9223372036854775807 < dq.size + (mk [byq]).size := by have := HZq.out; rw [sizeU]; show ¬ 9223372036854775807 < dq.size + 1; omega
              have SAq : Hid (w8.heap.size ≤ (ws.alloc (.cells #[.int .u8 ((byq.toNat : Nat) : Int)] 5)).heap.size) := by have := HSws.out; unfold Hid; simp; omega
              have BAq : Below ws.heap.size ws (ws.alloc (.cells #[.int .u8 ((byq.toNat : Nat) : Int)] 5)) := (Below.refl _ _).alloc (Nat.le_refl _) _
              have X1q : Hid (Bx (((ws.alloc (.cells #[.int .u8 ((byq.toNat : Nat) : Int)] 5)).setCell ⟨w6.heap.size, 5, none⟩ (.string (dq ++ mk [byq]))).drew) w6.heap.size (unA ⟨#[]⟩ (mk (unD Y m ++ Plain.low (uw64 xm) (k + 1))) m) none 0) := by rw [← HNq.out]; exact ⟨(bx_set5 (X2p.out.later BAq)).blk⟩
              have X2q : Hid (Bx (((ws.alloc (.cells #[.int .u8 ((byq.toNat : Nat) : Int)] 5)).setCell ⟨w6.heap.size, 5, none⟩ (.string (dq ++ mk [byq]))).drew) w4.heap.size (unA ⟨#[]⟩ (mk (unD X m ++ Plain.low (uw64 xm) (k + 1))) m) none 0) := ⟨(bx_other (X1p.out.later BAq) (by have := L46.out; omega)).blk⟩
              have BLq : Hid (Below w4.heap.size w4 (((ws.alloc (.cells #[.int .u8 ((byq.toNat : Nat) : Int)] 5)).setCell ⟨w6.heap.size, 5, none⟩ (.string (dq ++ mk [byq]))).drew)) := ((BLws.out.alloc (by have := HSws.out; have := L68.out; have := L46.out; omega) _).setCell (p := ⟨w6.heap.size, 5, none⟩) (by have := L46.out; show w4.heap.size ≤ w6.heap.size; omega) _).drew
              have OWq : Hid ((((ws.alloc (.cells #[.int .u8 ((byq.toNat : Nat) : Int)] 5)).setCell ⟨w6.heap.size, 5, none⟩ (.string (dq ++ mk [byq]))).drew).ownsRow w8.heap.size 9 1 (.slice ov m cv) m (Texts.cellsT (unV X (vby a1) m))) := (ownsRow_setCell_below (HOws.out.alloc _) (by have := L46.out; have := L68.out; show w6.heap.size < w8.heap.size; omega) _).drew
              have HSwt : Hid (w8.heap.size ≤ (((ws.alloc (.cells #[.int .u8 ((byq.toNat : Nat) : Int)] 5)).setCell ⟨w6.heap.size, 5, none⟩ (.string (dq ++ mk [byq]))).drew).heap.size) := by have := SAq.out; unfold Hid; simpa [World.setCell, World.drew] using this
              have d5b : (ws.alloc (.cells #[.int .u8 ((byq.toNat : Nat) : Int)] 5)).cell? ⟨w6.heap.size, 5, none⟩ = some (.string dq) := (X2p.out.later BAq).c5
              have f5b : (ws.alloc (.cells #[.int .u8 ((byq.toNat : Nat) : Int)] 5)).frozen? ⟨w6.heap.size, 5, none⟩ = false := (X2p.out.later BAq).fz 5
              clear BAq HNq HZq SAq
              have h8 : ((8 : Int) * (k : Int)).toNat = 8 * k := by omega
              go_wp2_with fail
              go_region
              generalize (((ws.alloc (.cells #[.int .u8 ((byq.toNat : Nat) : Int)] 5)).setCell ⟨w6.heap.size, 5, none⟩ (.string (dq ++ mk [byq]))).drew) = wt at *
              clear hbyq hbk d5 f5 d5b f5b hz h8
              go_wp2
              go_roundw
              case rel => exact ⟨k + 1, by omega, by go_num, X2q.out, X1q.out, BLq.out, OWq.out, HSwt.out⟩
              case measure => simp [intOf]; omega
            · obtain rfl : k = 8 := by omega
              have XA9 : Hid (Bx wr w4.heap.size (unA ⟨#[]⟩ (mk (unD X (m + 1))) m) none 0) := by have := XAr.out; rw [low8 X xm m HXM.out] at this; exact this
              have XB9 : Hid (Bx wr w6.heap.size (unA ⟨#[]⟩ (mk (unD Y (m + 1))) m) none 0) := by have := XBr.out; rw [low8 Y xm m HYM.out] at this; exact this
              clear XAr XBr
              have d2 : wr.cell? ⟨w4.heap.size, 2, none⟩ = some (.int .i64 (m : Int)) := XA9.out.c2
              have f2 : wr.frozen? ⟨w4.heap.size, 2, none⟩ = false := XA9.out.fz 2
              obtain ⟨wf, ef⟩ : ∃ v, wr.setCell ⟨w4.heap.size, 2, none⟩ (.int .i64 ((m : Int) + 1)) = v := ⟨_, rfl⟩
              have XAf : Hid (Bx wf w4.heap.size (unA ⟨#[]⟩ (mk (unD X (m + 1))) (m + 1)) none 0) := by rw [← ef]; exact bx_set2 XA9.out
              have XBf : Hid (Bx wf w6.heap.size (unA ⟨#[]⟩ (mk (unD Y (m + 1))) m) none 0) := by rw [← ef]; exact bx_other XB9.out (by have := L46.out; omega)
              have BLf : Hid (Below w4.heap.size w4 wf) := by rw [← ef]; exact BLwr.out.setCell (p := ⟨w4.heap.size, 2, none⟩) (Nat.le_refl _) _
              have HOf : Hid (wf.ownsRow w8.heap.size 9 1 (.slice ov m cv) m (Texts.cellsT (unV X (vby a1) m))) := by rw [← ef]; exact ownsRow_setCell_below HOwr.out (by have := L46.out; have := L68.out; show w4.heap.size < w8.heap.size; omega) _
              have HSf : Hid (w8.heap.size ≤ wf.heap.size) := by have := HSwr.out; unfold Hid; rw [← ef]; simpa [World.setCell] using this
              clear XA9 XB9 BLwr HOwr HSwr
              go_upto_region 21 with fail
              try rw [ef]
              clear ef d2 f2
              have d2 : wf.cell? ⟨w6.heap.size, 2, none⟩ = some (.int .i64 (m : Int)) := XBf.out.c2
              have f2 : wf.frozen? ⟨w6.heap.size, 2, none⟩ = false := XBf.out.fz 2
              obtain ⟨wg, eg⟩ : ∃ v, wf.setCell ⟨w6.heap.size, 2, none⟩ (.int .i64 ((m : Int) + 1)) = v := ⟨_, rfl⟩
              have XAg : Hid (Bx wg w4.heap.size (unA ⟨#[]⟩ (mk (unD X (m + 1))) (m + 1)) none 0) := by rw [← eg]; exact bx_other XAf.out (by have := L46.out; omega)
              have XBg : Hid (Bx wg w6.heap.size (unA ⟨#[]⟩ (mk (unD Y (m + 1))) (m + 1)) none 0) := by rw [← eg]; exact bx_set2 XBf.out
              have BLg : Hid (Below w4.heap.size w4 wg) := by rw [← eg]; exact BLf.out.setCell (p := ⟨w6.heap.size, 2, none⟩) (by have := L46.out; show w4.heap.size ≤ w6.heap.size; omega) _
              have HOg : Hid (wg.ownsRow w8.heap.size 9 1 (.slice ov m cv) m (Texts.cellsT (unV X (vby a1) m))) := by rw [← eg]; exact ownsRow_setCell_below HOf.out (by have := L46.out; have := L68.out; show w6.heap.size < w8.heap.size; omega) _
              have HSg : Hid (w8.heap.size ≤ wg.heap.size) := by have := HSf.out; unfold Hid; rw [← eg]; simpa [World.setCell] using this
              clear XAf XBf BLf HOf HSf
              go_upto_region 22 with fail
              try rw [eg]
              clear eg d2 f2
              have hown := HOg.out
              have hz := HSg.out
              go_wp2_with (at_builtin; refine wpList_append_own _ rfl (.tmp 89) (.tmp 91) 29 rfl w8.heap.size 9 i9 (.string ⟨#[]⟩) 1 16 Tryz.underlying29 hi hz0 hz1 hz2 rfl (by decide) _ m _ rfl (hown.alloc _) ⟨wg.heap.size, 0, none⟩ 1 1 [.string (mk (Val.intM xm))] rfl rfl ?c1 ?c2 ?c3 ?c4 ?c5 ?_)
              case c1 =>
                intro j u hj
                match j, hj with
                | 0, hj => simp at hj; subst hj; simp [Addr.add]; rfl
              case c2 => intro u hu; simp at hu; subst hu; rfl
              case c3 => unfold maxLen; omega
              case c4 => omega
              case c5 => simp; omega
              intro u6 wz hown6 hgrow _
              have BZ : Hid (Below w8.heap.size wg wz) := ((Below.refl w8.heap.size wg).alloc hz _).grown hgrow (by simp; omega) (fun j hj => (hown.lt j hj).1)
              have BLz : Hid (Below w4.heap.size w4 wz) := (BLg.out.alloc (by have := L46.out; have := L68.out; omega) _).grown hgrow (by have := L46.out; have := L68.out; simp; omega) (fun j hj => by have := (hown.lt j hj).1; have := L46.out; have := L68.out; omega)
              obtain ⟨o6, c6, rfl⟩ := ownsRow_len hown6
              have HOz : Hid (wz.ownsRow w8.heap.size 9 1 (.slice o6 (m + 1) c6) (m + 1) (Texts.cellsT (unV X (vby a1) (m + 1)))) := by
                unfold Hid
                rw [unV_succ, HVM.out]
                exact hown6
              have XAz : Hid (Bx wz w4.heap.size (unA ⟨#[]⟩ (mk (unD X (m + 1))) (m + 1)) none 0) := bx_low XAg.out BZ.out (by have := L46.out; have := L68.out; omega)
              have XBz : Hid (Bx wz w6.heap.size (unA ⟨#[]⟩ (mk (unD Y (m + 1))) (m + 1)) none 0) := bx_low XBg.out BZ.out L68.out
              have HSz : Hid (w8.heap.size ≤ wz.heap.size) := Nat.le_trans hz BZ.out.size
              clear hown6 hgrow hown hz
              go_wp2
              go_roundw
              case rel => exact ⟨m + 1, o6, c6, by omega, by omega, by go_num, rfl, HOz.out, XAz.out, XBz.out, BLz.out, HSz.out⟩
              case measure => simp [intOf]; omega
      · have i1 : (m : Int) < (len0 : Int) := by omega
        have i2 : ¬ (m : Int) < 32 := by omega
        have HUX : Hid (valsA unN 0 1 (unA (mk (vby a1)) (mk (unD X m)) m) = unV X (vby a1) m ∧ valsE unN 0 1 (unA (mk (vby a1)) (mk (unD X m)) m) = 0) := un_vals X _ _ m hm32 rfl (Val.bl_mk _) (fun j hj _ => by obtain ⟨_, _, _, h⟩ := HR2.out j (by omega); exact h)
        have HUY0 := un_vals Y (mk (vby a1)) (mk (unD Y m)) m hm32 rfl (Val.bl_mk _) (fun j hj hb => by
          obtain ⟨_, _, _, h⟩ := HR2.out j (by omega)
          have hbv := bit_vby a1 j (by omega)
          rw [show Val.bl (mk (vby a1)) = vby a1 from Val.bl_mk _, hbv] at hb
          rw [HYT.out j hb]
          exact h)
        have HUY : Hid (valsA unN 0 1 (unA (mk (vby a1)) (mk (unD Y m)) m) = unV X (vby a1) m ∧ valsE unN 0 1 (unA (mk (vby a1)) (mk (unD Y m)) m) = 0) := by
          unfold Hid
          rw [← unV_same Y X (vby a1) m (fun j hj hb => HYT.out j (by rw [← bit_vby a1 j (by omega)]; exact hb))]
          exact HUY0
        clear HUY0
        have HDX : Hid ((mk (unD X m)).size ≤ 4096 ∧ (mk (unD Y m)).size ≤ 4096) := by unfold Hid; rw [sizeU, sizeU, length_unD, length_unD]; omega
        have HUL : Hid ((unV X (vby a1) m).length = m) := length_unV _ _ _
        have HVA : Hid (∀ (v : World) (d : ByteArray), d = mk (unD X m) ∨ d = mk (unD Y m) → Below w4.heap.size w4 v → Calls Tryz.prog 17 #[.agg #[.slice (some ⟨w1.heap.size, 0, none⟩) 1 1], .int .i64 0, .agg #[.int .i64 0, .int .i64 0, .int .i64 (m : Int), .string (mk (vby a1)), .string ⟨#[]⟩, .string d, .slice none 0 0]] v fun r w' => ∃ ou cu, r = .returned (.tuple #[.slice ou m cu, .int .i64 0]) ∧ Texts.IsTx w' ou (unV X (vby a1) m) ∧ Below v.heap.size v w') := by
          intro v d hd hv
          have hok : (unA (mk (vby a1)) d m).ok 4096 := un_ok 4096 (Nat.le_refl _) _ _ m hm32 (by rw [sizeU]; show (4 : Nat) ≤ 4096; decide) (by rcases hd with rfl | rfl; exact HDX.out.1; exact HDX.out.2)
          have hva : valsA unN 0 1 (unA (mk (vby a1)) d m) = unV X (vby a1) m ∧ valsE unN 0 1 (unA (mk (vby a1)) d m) = 0 := by rcases hd with rfl | rfl; exact HUX.out; exact HUY.out
          have := valuesP 4096 0 unN (some ⟨w1.heap.size, 0, none⟩) 1 0 (unA (mk (vby a1)) d m) none 0 v (hw.out.later (Arr.bel2 B4.out hv)) (HI4.out.later hv) (holds0 _ v rfl hok)
          rw [hva.1, hva.2] at this
          refine this.mono ?_
          rintro e w' ⟨ou, cu, h1, h2, h3⟩
          rw [HUL.out] at h1 h2
          exact ⟨ou, cu, h1, Texts.own_texts (by rw [HUL.out]; exact h2), h3⟩
        have HOwr : Hid (wr.ownsRow w8.heap.size 9 1 (.slice ov m cv) m (Texts.cellsT (unV X (vby a1) m))) := hown
        have XAr : Hid (Bx wr w4.heap.size (unA ⟨#[]⟩ (mk (unD X m)) m) none 0) := hxa
        have XBr : Hid (Bx wr w6.heap.size (unA ⟨#[]⟩ (mk (unD Y m)) m) none 0) := hxb
        have BLwr : Hid (Below w4.heap.size w4 wr) := hbl
        have HSwr : Hid (w8.heap.size ≤ wr.heap.size) := hsz
        clear hown hxa hxb hbl hsz HUX HUY HDX hi hz0 hz1 hz2
        obtain ⟨dx, hdx⟩ : ∃ d, d = mk (unD X m) := ⟨_, rfl⟩
        obtain ⟨dy, hdy⟩ : ∃ d, d = mk (unD Y m) := ⟨_, rfl⟩
        rw [← hdx] at XAr
        rw [← hdy] at XBr
        have HVX : Hid (∀ (v : World), Below w4.heap.size w4 v → Calls Tryz.prog 17 #[.agg #[.slice (some ⟨w1.heap.size, 0, none⟩) 1 1], .int .i64 0, .agg #[.int .i64 0, .int .i64 0, .int .i64 (m : Int), .string (mk (vby a1)), .string ⟨#[]⟩, .string dx, .slice none 0 0]] v fun r w' => ∃ ou cu, r = .returned (.tuple #[.slice ou m cu, .int .i64 0]) ∧ Texts.IsTx w' ou (unV X (vby a1) m) ∧ Below v.heap.size v w') := fun v hv => HVA.out v dx (.inl hdx) hv
        have HVY : Hid (∀ (v : World), Below w4.heap.size w4 v → Calls Tryz.prog 17 #[.agg #[.slice (some ⟨w1.heap.size, 0, none⟩) 1 1], .int .i64 0, .agg #[.int .i64 0, .int .i64 0, .int .i64 (m : Int), .string (mk (vby a1)), .string ⟨#[]⟩, .string dy, .slice none 0 0]] v fun r w' => ∃ ou cu, r = .returned (.tuple #[.slice ou m cu, .int .i64 0]) ∧ Texts.IsTx w' ou (unV X (vby a1) m) ∧ Below v.heap.size v w') := fun v hv => HVA.out v dy (.inr hdy) hv
        clear HVA hdx hdy
        generalize unV X (vby a1) m = U at *
        have e0 : IntKind.u8.wrap a1 = (((by8 a1 0).toNat : Nat) : Int) := by have := byte_v a1 0; simpa using this
        have e1 : IntKind.u8.wrap (a1 / 256) = (((by8 a1 1).toNat : Nat) : Int) := by have := byte_v a1 1; simpa using this
        have e2 : IntKind.u8.wrap (a1 / 65536) = (((by8 a1 2).toNat : Nat) : Int) := by have := byte_v a1 2; simpa using this
        have e3 : IntKind.u8.wrap (a1 / 16777216) = (((by8 a1 3).toNat : Nat) : Int) := by have := byte_v a1 3; simpa using this
        rw [show vby a1 = [by8 a1 0, by8 a1 1, by8 a1 2, by8 a1 3] from rfl] at HVX HVY
        generalize by8 a1 0 = q0 at *
        generalize by8 a1 1 = q1 at *
        generalize by8 a1 2 = q2 at *
        generalize by8 a1 3 = q3 at *
        have hb4 := four_back wr q0 q1 q2 q3
        obtain ⟨wA, eA⟩ : ∃ v, wr.alloc (.cells #[.int .u8 ((q0.toNat : Nat) : Int), .int .u8 ((q1.toNat : Nat) : Int), .int .u8 ((q2.toNat : Nat) : Int), .int .u8 ((q3.toNat : Nat) : Int)] 5) = v := ⟨_, rfl⟩
        rw [eA] at hb4
        have BAw : Below wr.heap.size wr wA := by rw [← eA]; exact (Below.refl _ _).alloc (Nat.le_refl _) _
        have XAA := XAr.out.later BAw
        have d3 : wA.cell? ⟨w4.heap.size, 3, none⟩ = some (.string ⟨#[]⟩) := XAA.c3
        have f3 : wA.frozen? ⟨w4.heap.size, 3, none⟩ = false := XAA.fz 3
        obtain ⟨wB, eB⟩ : ∃ v, wA.setCell ⟨w4.heap.size, 3, none⟩ (.string (mk [q0, q1, q2, q3])) = v := ⟨_, rfl⟩
        have XAB : Hid (Bx wB w4.heap.size (unA (mk [q0, q1, q2, q3]) dx m) none 0) := by rw [← eB]; exact bx_set3 XAA
        have XBB : Hid (Bx wB w6.heap.size (unA ⟨#[]⟩ dy m) none 0) := by rw [← eB]; exact bx_other (XBr.out.later BAw) (by have := L46.out; omega)
        have BLB : Hid (Below w4.heap.size w4 wB) := by rw [← eB, ← eA]; exact (BLwr.out.alloc (by have := HSwr.out; have := L46.out; have := L68.out; omega) _).setCell (p := ⟨w4.heap.size, 3, none⟩) (Nat.le_refl _) _
        have HOB : Hid (wB.ownsRow w8.heap.size 9 1 (.slice ov m cv) m (Texts.cellsT U)) := by rw [← eB, ← eA]; exact ownsRow_setCell_below (HOwr.out.alloc _) (by have := L46.out; have := L68.out; show w4.heap.size < w8.heap.size; omega) _
        clear XAA
        go_upto_region 24 with fail
        try rw [eA]
        try rw [eB]
        clear eA eB hb4 d3 f3 BAw e0 e1 e2 e3 XAr XBr BLwr HOwr HSwr
        have d3 : wB.cell? ⟨w4.heap.size, 3, none⟩ = some (.string (mk [q0, q1, q2, q3])) := XAB.out.c3
        have g3 : wB.cell? ⟨w6.heap.size, 3, none⟩ = some (.string ⟨#[]⟩) := XBB.out.c3
        have f3 : wB.frozen? ⟨w6.heap.size, 3, none⟩ = false := XBB.out.fz 3
        obtain ⟨wC, eC⟩ : ∃ v, wB.setCell ⟨w6.heap.size, 3, none⟩ (.string (mk [q0, q1, q2, q3])) = v := ⟨_, rfl⟩
        have XAC : Hid (Bx wC w4.heap.size (unA (mk [q0, q1, q2, q3]) dx m) none 0) := by rw [← eC]; exact bx_other XAB.out (by have := L46.out; omega)
        have XBC : Hid (Bx wC w6.heap.size (unA (mk [q0, q1, q2, q3]) dy m) none 0) := by rw [← eC]; exact bx_set3 XBB.out
        have BLC : Hid (Below w4.heap.size w4 wC) := by rw [← eC]; exact BLB.out.setCell (p := ⟨w6.heap.size, 3, none⟩) (by have := L46.out; show w4.heap.size ≤ w6.heap.size; omega) _
        have HOC : Hid (wC.ownsRow w8.heap.size 9 1 (.slice ov m cv) m (Texts.cellsT U)) := by rw [← eC]; exact ownsRow_setCell_below HOB.out (by have := L68.out; show w6.heap.size < w8.heap.size; omega) _
        have HXC : Hid (Texts.IsTx wC ov U) := Texts.own_texts (by rw [HUL.out]; exact HOC.out)
        go_upto_region 25 with fail
        try rw [eC]
        clear eC d3 g3 f3 XAB XBB BLB HOB HOC
        have cT := cell_later BLC.out HT4.out
        have d0 : wC.cell? ⟨w4.heap.size, 0, none⟩ = some (.int .i64 0) := XAC.out.c0
        have d1 : wC.cell? ⟨w4.heap.size, 1, none⟩ = some (.int .i64 0) := XAC.out.c1
        have d2 : wC.cell? ⟨w4.heap.size, 2, none⟩ = some (.int .i64 (m : Int)) := XAC.out.c2
        have d3 : wC.cell? ⟨w4.heap.size, 3, none⟩ = some (.string (mk [q0, q1, q2, q3])) := XAC.out.c3
        have d4 : wC.cell? ⟨w4.heap.size, 4, none⟩ = some (.string ⟨#[]⟩) := XAC.out.c4
        have d5 : wC.cell? ⟨w4.heap.size, 5, none⟩ = some (.string dx) := XAC.out.c5
        have d6 : wC.cell? ⟨w4.heap.size, 6, none⟩ = some (.slice none 0 0) := XAC.out.c6
        go_wp2_with fail
        refine (HVX.out wC BLC.out).mono ?_
        rintro e wD ⟨ou, cu, rfl, htx, bD⟩
        have HTD : Hid (Texts.IsTx wD ou U) := htx
        have HXD : Hid (Texts.IsTx wD ov U) := HXC.out.later bD
        have XBD : Hid (Bx wD w6.heap.size (unA (mk [q0, q1, q2, q3]) dy m) none 0) := XBC.out.later bD
        have BLD : Hid (Below w4.heap.size w4 wD) := Arr.bel2 BLC.out bD
        clear htx bD cT d0 d1 d2 d3 d4 d5 d6
        have cT := cell_later BLD.out HT4.out
        have d0 : wD.cell? ⟨w6.heap.size, 0, none⟩ = some (.int .i64 0) := XBD.out.c0
        have d1 : wD.cell? ⟨w6.heap.size, 1, none⟩ = some (.int .i64 0) := XBD.out.c1
        have d2 : wD.cell? ⟨w6.heap.size, 2, none⟩ = some (.int .i64 (m : Int)) := XBD.out.c2
        have d3 : wD.cell? ⟨w6.heap.size, 3, none⟩ = some (.string (mk [q0, q1, q2, q3])) := XBD.out.c3
        have d4 : wD.cell? ⟨w6.heap.size, 4, none⟩ = some (.string ⟨#[]⟩) := XBD.out.c4
        have d5 : wD.cell? ⟨w6.heap.size, 5, none⟩ = some (.string dy) := XBD.out.c5
        have d6 : wD.cell? ⟨w6.heap.size, 6, none⟩ = some (.slice none 0 0) := XBD.out.c6
        go_wp2_with fail
        refine (HVY.out wD BLD.out).mono ?_
        rintro e wE ⟨o2, c2, rfl, ht2, bE⟩
        have HTE : Hid (Texts.IsTx wE ou U) := HTD.out.later bE
        have HXE : Hid (Texts.IsTx wE ov U) := HXD.out.later bE
        have HYE : Hid (Texts.IsTx wE o2 U) := ht2
        have BLE : Hid (Below w4.heap.size w4 wE) := Arr.bel2 BLD.out bE
        clear ht2 bE cT d0 d1 d2 d3 d4 d5 d6
        have HS1 : Hid (Calls Tryz.prog 22 #[.slice ou m cu, .slice ov m cv] wE fun r w' => r = .returned (.bool true) ∧ Below wE.heap.size wE w') := by
          have := Val.sameTexts ou ov cu cv U (by rw [HUL.out]; omega) wE HTE.out HXE.out
          rw [HUL.out] at this
          exact this
        go_wp2_with fail
        refine (Tree.num _ _).mono ?_
        rintro e wx ⟨rfl, hv⟩
        subst wx
        go_wp2_with fail
        refine (Tree.num _ _).mono ?_
        rintro e wx ⟨rfl, hv⟩
        subst wx
        go_wp2_with fail
        refine HS1.out.mono ?_
        rintro e wF ⟨rfl, bF⟩
        have BLF : Hid (Below w4.heap.size w4 wF) := Arr.bel2 BLE.out bF
        have HS2 : Hid (Calls Tryz.prog 22 #[.slice o2 m c2, .slice ov m cv] wF fun r w' => r = .returned (.bool true) ∧ Below wF.heap.size wF w') := by
          have := Val.sameTexts o2 ov c2 cv U (by rw [HUL.out]; omega) wF (HYE.out.later bF) (HXE.out.later bF)
          rw [HUL.out] at this
          exact this
        clear bF
        go_wp2_with fail
        refine HS2.out.mono ?_
        rintro e wG ⟨rfl, bG⟩
        have BG : Hid (Below w.heap.size w wG) := Arr.bel2 B4.out (Arr.bel2 BLF.out bG)
        clear bG
        go_wp2
        go_ret
        exact ⟨rfl, BG.out⟩
    · have i1 : ¬ (m : Int) < (len0 : Int) := by omega
      have HUX : Hid (valsA unN 0 1 (unA (mk (vby a1)) (mk (unD X m)) m) = unV X (vby a1) m ∧ valsE unN 0 1 (unA (mk (vby a1)) (mk (unD X m)) m) = 0) := un_vals X _ _ m hm32 rfl (Val.bl_mk _) (fun j hj _ => by obtain ⟨_, _, _, h⟩ := HR2.out j (by omega); exact h)
      have HUY0 := un_vals Y (mk (vby a1)) (mk (unD Y m)) m hm32 rfl (Val.bl_mk _) (fun j hj hb => by
        obtain ⟨_, _, _, h⟩ := HR2.out j (by omega)
        have hbv := bit_vby a1 j (by omega)
        rw [show Val.bl (mk (vby a1)) = vby a1 from Val.bl_mk _, hbv] at hb
        rw [HYT.out j hb]
        exact h)
      have HUY : Hid (valsA unN 0 1 (unA (mk (vby a1)) (mk (unD Y m)) m) = unV X (vby a1) m ∧ valsE unN 0 1 (unA (mk (vby a1)) (mk (unD Y m)) m) = 0) := by
        unfold Hid
        rw [← unV_same Y X (vby a1) m (fun j hj hb => HYT.out j (by rw [← bit_vby a1 j (by omega)]; exact hb))]
        exact HUY0
      clear HUY0
      have HDX : Hid ((mk (unD X m)).size ≤ 4096 ∧ (mk (unD Y m)).size ≤ 4096) := by unfold Hid; rw [sizeU, sizeU, length_unD, length_unD]; omega
      have HUL : Hid ((unV X (vby a1) m).length = m) := length_unV _ _ _
      have HVA : Hid (∀ (v : World) (d : ByteArray), d = mk (unD X m) ∨ d = mk (unD Y m) → Below w4.heap.size w4 v → Calls Tryz.prog 17 #[.agg #[.slice (some ⟨w1.heap.size, 0, none⟩) 1 1], .int .i64 0, .agg #[.int .i64 0, .int .i64 0, .int .i64 (m : Int), .string (mk (vby a1)), .string ⟨#[]⟩, .string d, .slice none 0 0]] v fun r w' => ∃ ou cu, r = .returned (.tuple #[.slice ou m cu, .int .i64 0]) ∧ Texts.IsTx w' ou (unV X (vby a1) m) ∧ Below v.heap.size v w') := by
        intro v d hd hv
        have hok : (unA (mk (vby a1)) d m).ok 4096 := un_ok 4096 (Nat.le_refl _) _ _ m hm32 (by rw [sizeU]; show (4 : Nat) ≤ 4096; decide) (by rcases hd with rfl | rfl; exact HDX.out.1; exact HDX.out.2)
        have hva : valsA unN 0 1 (unA (mk (vby a1)) d m) = unV X (vby a1) m ∧ valsE unN 0 1 (unA (mk (vby a1)) d m) = 0 := by rcases hd with rfl | rfl; exact HUX.out; exact HUY.out
        have := valuesP 4096 0 unN (some ⟨w1.heap.size, 0, none⟩) 1 0 (unA (mk (vby a1)) d m) none 0 v (hw.out.later (Arr.bel2 B4.out hv)) (HI4.out.later hv) (holds0 _ v rfl hok)
        rw [hva.1, hva.2] at this
        refine this.mono ?_
        rintro e w' ⟨ou, cu, h1, h2, h3⟩
        rw [HUL.out] at h1 h2
        exact ⟨ou, cu, h1, Texts.own_texts (by rw [HUL.out]; exact h2), h3⟩
      have HOwr : Hid (wr.ownsRow w8.heap.size 9 1 (.slice ov m cv) m (Texts.cellsT (unV X (vby a1) m))) := hown
      have XAr : Hid (Bx wr w4.heap.size (unA ⟨#[]⟩ (mk (unD X m)) m) none 0) := hxa
      have XBr : Hid (Bx wr w6.heap.size (unA ⟨#[]⟩ (mk (unD Y m)) m) none 0) := hxb
      have BLwr : Hid (Below w4.heap.size w4 wr) := hbl
      have HSwr : Hid (w8.heap.size ≤ wr.heap.size) := hsz
      clear hown hxa hxb hbl hsz HUX HUY HDX hi hz0 hz1 hz2
      obtain ⟨dx, hdx⟩ : ∃ d, d = mk (unD X m) := ⟨_, rfl⟩
      obtain ⟨dy, hdy⟩ : ∃ d, d = mk (unD Y m) := ⟨_, rfl⟩
      rw [← hdx] at XAr
      rw [← hdy] at XBr
      have HVX : Hid (∀ (v : World), Below w4.heap.size w4 v → Calls Tryz.prog 17 #[.agg #[.slice (some ⟨w1.heap.size, 0, none⟩) 1 1], .int .i64 0, .agg #[.int .i64 0, .int .i64 0, .int .i64 (m : Int), .string (mk (vby a1)), .string ⟨#[]⟩, .string dx, .slice none 0 0]] v fun r w' => ∃ ou cu, r = .returned (.tuple #[.slice ou m cu, .int .i64 0]) ∧ Texts.IsTx w' ou (unV X (vby a1) m) ∧ Below v.heap.size v w') := fun v hv => HVA.out v dx (.inl hdx) hv
      have HVY : Hid (∀ (v : World), Below w4.heap.size w4 v → Calls Tryz.prog 17 #[.agg #[.slice (some ⟨w1.heap.size, 0, none⟩) 1 1], .int .i64 0, .agg #[.int .i64 0, .int .i64 0, .int .i64 (m : Int), .string (mk (vby a1)), .string ⟨#[]⟩, .string dy, .slice none 0 0]] v fun r w' => ∃ ou cu, r = .returned (.tuple #[.slice ou m cu, .int .i64 0]) ∧ Texts.IsTx w' ou (unV X (vby a1) m) ∧ Below v.heap.size v w') := fun v hv => HVA.out v dy (.inr hdy) hv
      clear HVA hdx hdy
      generalize unV X (vby a1) m = U at *
      have e0 : IntKind.u8.wrap a1 = (((by8 a1 0).toNat : Nat) : Int) := by have := byte_v a1 0; simpa using this
      have e1 : IntKind.u8.wrap (a1 / 256) = (((by8 a1 1).toNat : Nat) : Int) := by have := byte_v a1 1; simpa using this
      have e2 : IntKind.u8.wrap (a1 / 65536) = (((by8 a1 2).toNat : Nat) : Int) := by have := byte_v a1 2; simpa using this
      have e3 : IntKind.u8.wrap (a1 / 16777216) = (((by8 a1 3).toNat : Nat) : Int) := by have := byte_v a1 3; simpa using this
      rw [show vby a1 = [by8 a1 0, by8 a1 1, by8 a1 2, by8 a1 3] from rfl] at HVX HVY
      generalize by8 a1 0 = q0 at *
      generalize by8 a1 1 = q1 at *
      generalize by8 a1 2 = q2 at *
      generalize by8 a1 3 = q3 at *
      have hb4 := four_back wr q0 q1 q2 q3
      obtain ⟨wA, eA⟩ : ∃ v, wr.alloc (.cells #[.int .u8 ((q0.toNat : Nat) : Int), .int .u8 ((q1.toNat : Nat) : Int), .int .u8 ((q2.toNat : Nat) : Int), .int .u8 ((q3.toNat : Nat) : Int)] 5) = v := ⟨_, rfl⟩
      rw [eA] at hb4
      have BAw : Below wr.heap.size wr wA := by rw [← eA]; exact (Below.refl _ _).alloc (Nat.le_refl _) _
      have XAA := XAr.out.later BAw
      have d3 : wA.cell? ⟨w4.heap.size, 3, none⟩ = some (.string ⟨#[]⟩) := XAA.c3
      have f3 : wA.frozen? ⟨w4.heap.size, 3, none⟩ = false := XAA.fz 3
      obtain ⟨wB, eB⟩ : ∃ v, wA.setCell ⟨w4.heap.size, 3, none⟩ (.string (mk [q0, q1, q2, q3])) = v := ⟨_, rfl⟩
      have XAB : Hid (Bx wB w4.heap.size (unA (mk [q0, q1, q2, q3]) dx m) none 0) := by rw [← eB]; exact bx_set3 XAA
      have XBB : Hid (Bx wB w6.heap.size (unA ⟨#[]⟩ dy m) none 0) := by rw [← eB]; exact bx_other (XBr.out.later BAw) (by have := L46.out; omega)
      have BLB : Hid (Below w4.heap.size w4 wB) := by rw [← eB, ← eA]; exact (BLwr.out.alloc (by have := HSwr.out; have := L46.out; have := L68.out; omega) _).setCell (p := ⟨w4.heap.size, 3, none⟩) (Nat.le_refl _) _
      have HOB : Hid (wB.ownsRow w8.heap.size 9 1 (.slice ov m cv) m (Texts.cellsT U)) := by rw [← eB, ← eA]; exact ownsRow_setCell_below (HOwr.out.alloc _) (by have := L46.out; have := L68.out; show w4.heap.size < w8.heap.size; omega) _
      clear XAA
      go_upto_region 24 with fail
      try rw [eA]
      try rw [eB]
      clear eA eB hb4 d3 f3 BAw e0 e1 e2 e3 XAr XBr BLwr HOwr HSwr
      have d3 : wB.cell? ⟨w4.heap.size, 3, none⟩ = some (.string (mk [q0, q1, q2, q3])) := XAB.out.c3
      have g3 : wB.cell? ⟨w6.heap.size, 3, none⟩ = some (.string ⟨#[]⟩) := XBB.out.c3
      have f3 : wB.frozen? ⟨w6.heap.size, 3, none⟩ = false := XBB.out.fz 3
      obtain ⟨wC, eC⟩ : ∃ v, wB.setCell ⟨w6.heap.size, 3, none⟩ (.string (mk [q0, q1, q2, q3])) = v := ⟨_, rfl⟩
      have XAC : Hid (Bx wC w4.heap.size (unA (mk [q0, q1, q2, q3]) dx m) none 0) := by rw [← eC]; exact bx_other XAB.out (by have := L46.out; omega)
      have XBC : Hid (Bx wC w6.heap.size (unA (mk [q0, q1, q2, q3]) dy m) none 0) := by rw [← eC]; exact bx_set3 XBB.out
      have BLC : Hid (Below w4.heap.size w4 wC) := by rw [← eC]; exact BLB.out.setCell (p := ⟨w6.heap.size, 3, none⟩) (by have := L46.out; show w4.heap.size ≤ w6.heap.size; omega) _
      have HOC : Hid (wC.ownsRow w8.heap.size 9 1 (.slice ov m cv) m (Texts.cellsT U)) := by rw [← eC]; exact ownsRow_setCell_below HOB.out (by have := L68.out; show w6.heap.size < w8.heap.size; omega) _
      have HXC : Hid (Texts.IsTx wC ov U) := Texts.own_texts (by rw [HUL.out]; exact HOC.out)
      go_upto_region 25 with fail
      try rw [eC]
      clear eC d3 g3 f3 XAB XBB BLB HOB HOC
      have cT := cell_later BLC.out HT4.out
      have d0 : wC.cell? ⟨w4.heap.size, 0, none⟩ = some (.int .i64 0) := XAC.out.c0
      have d1 : wC.cell? ⟨w4.heap.size, 1, none⟩ = some (.int .i64 0) := XAC.out.c1
      have d2 : wC.cell? ⟨w4.heap.size, 2, none⟩ = some (.int .i64 (m : Int)) := XAC.out.c2
      have d3 : wC.cell? ⟨w4.heap.size, 3, none⟩ = some (.string (mk [q0, q1, q2, q3])) := XAC.out.c3
      have d4 : wC.cell? ⟨w4.heap.size, 4, none⟩ = some (.string ⟨#[]⟩) := XAC.out.c4
      have d5 : wC.cell? ⟨w4.heap.size, 5, none⟩ = some (.string dx) := XAC.out.c5
      have d6 : wC.cell? ⟨w4.heap.size, 6, none⟩ = some (.slice none 0 0) := XAC.out.c6
      go_wp2_with fail
      refine (HVX.out wC BLC.out).mono ?_
      rintro e wD ⟨ou, cu, rfl, htx, bD⟩
      have HTD : Hid (Texts.IsTx wD ou U) := htx
      have HXD : Hid (Texts.IsTx wD ov U) := HXC.out.later bD
      have XBD : Hid (Bx wD w6.heap.size (unA (mk [q0, q1, q2, q3]) dy m) none 0) := XBC.out.later bD
      have BLD : Hid (Below w4.heap.size w4 wD) := Arr.bel2 BLC.out bD
      clear htx bD cT d0 d1 d2 d3 d4 d5 d6
      have cT := cell_later BLD.out HT4.out
      have d0 : wD.cell? ⟨w6.heap.size, 0, none⟩ = some (.int .i64 0) := XBD.out.c0
      have d1 : wD.cell? ⟨w6.heap.size, 1, none⟩ = some (.int .i64 0) := XBD.out.c1
      have d2 : wD.cell? ⟨w6.heap.size, 2, none⟩ = some (.int .i64 (m : Int)) := XBD.out.c2
      have d3 : wD.cell? ⟨w6.heap.size, 3, none⟩ = some (.string (mk [q0, q1, q2, q3])) := XBD.out.c3
      have d4 : wD.cell? ⟨w6.heap.size, 4, none⟩ = some (.string ⟨#[]⟩) := XBD.out.c4
      have d5 : wD.cell? ⟨w6.heap.size, 5, none⟩ = some (.string dy) := XBD.out.c5
      have d6 : wD.cell? ⟨w6.heap.size, 6, none⟩ = some (.slice none 0 0) := XBD.out.c6
      go_wp2_with fail
      refine (HVY.out wD BLD.out).mono ?_
      rintro e wE ⟨o2, c2, rfl, ht2, bE⟩
      have HTE : Hid (Texts.IsTx wE ou U) := HTD.out.later bE
      have HXE : Hid (Texts.IsTx wE ov U) := HXD.out.later bE
      have HYE : Hid (Texts.IsTx wE o2 U) := ht2
      have BLE : Hid (Below w4.heap.size w4 wE) := Arr.bel2 BLD.out bE
      clear ht2 bE cT d0 d1 d2 d3 d4 d5 d6
      have HS1 : Hid (Calls Tryz.prog 22 #[.slice ou m cu, .slice ov m cv] wE fun r w' => r = .returned (.bool true) ∧ Below wE.heap.size wE w') := by
        have := Val.sameTexts ou ov cu cv U (by rw [HUL.out]; omega) wE HTE.out HXE.out
        rw [HUL.out] at this
        exact this
      go_wp2_with fail
      refine (Tree.num _ _).mono ?_
      rintro e wx ⟨rfl, hv⟩
      subst wx
      go_wp2_with fail
      refine (Tree.num _ _).mono ?_
      rintro e wx ⟨rfl, hv⟩
      subst wx
      go_wp2_with fail
      refine HS1.out.mono ?_
      rintro e wF ⟨rfl, bF⟩
      have BLF : Hid (Below w4.heap.size w4 wF) := Arr.bel2 BLE.out bF
      have HS2 : Hid (Calls Tryz.prog 22 #[.slice o2 m c2, .slice ov m cv] wF fun r w' => r = .returned (.bool true) ∧ Below wF.heap.size wF w') := by
        have := Val.sameTexts o2 ov c2 cv U (by rw [HUL.out]; omega) wF (HYE.out.later bF) (HXE.out.later bF)
        rw [HUL.out] at this
        exact this
      clear bF
      go_wp2_with fail
      refine HS2.out.mono ?_
      rintro e wG ⟨rfl, bG⟩
      have BG : Hid (Below w.heap.size w wG) := Arr.bel2 B4.out (Arr.bel2 BLF.out bG)
      clear bG
      go_wp2
      go_ret
      exact ⟨rfl, BG.out⟩

set_option maxRecDepth 100000 in
theorem lifted (os : Os) (started : os.Started) (H : Type) (enc : TypeId × Value → H) :
    ReturnsInHanded {} Tryz.checked os 4 .any (fun w args => (Rows.readUnderSpec.pre enc Tryz.prog Tryz.f4 [] false w args ∧ laidMetH Tryz.prog Val.laidR w) ∧ sizedMet enc Tryz.prog Tryz.f4 (OpenSpec.ofChange Rows.readUnderSpec) false w args) (Rows.readUnderSpec.post enc Tryz.prog Tryz.f4 false true false false) := by
  refine returnsInHanded_of_change_and (C := Tryz.checked) (X := fun w _ => laidMetH Tryz.prog Val.laidR w) (fun _ _ _ hh h => h.of_heap hh) own started (by kernel_rfl) Tryz.func4
    (ChangeSpec.witness_shaped (enc := enc) (C := Tryz.checked) (os := os) (X := fun w _ => laidMetH Tryz.prog Val.laidR w) false (World.doorLaid Tryz.prog 400 os) #[.slice none 0 0, .int .i64 0, .int .i64 0] 8 rfl (World.shaped_of_RefB (by kernel_rfl) (by kernel_rfl)) (by kernel_rfl) (by kernel_rfl) (by kernel_rfl) (Val.doorR_met os _)) ?_
  intro W base args ds gs before hval0 hW hcnd hsz0 hL _
  have hsz : (DataW.weightsEach Tryz.prog (Tryz.f4.params.toList ++ Rows.readUnderSpec.plain.varTypes Tryz.prog) (ds ++ gs)).all (· ≤ reachBytes) = true := hsz0
  clear hsz0
  have hval : ∀ (j : Nat) t v, Tryz.f4.params[j]? = some t → args[j]? = some v → Value.okWide Tryz.prog W .any base t v := hval0
  have hW' := hW
  obtain ⟨p, q, hA0, hV, rfl, hfz, hnd⟩ := hW
  have hA : DataW.TrodAll enc Tryz.prog W 0 (fun _ => true) true Tryz.f4.params.toList args.toList ds p := hA0
  rw [Tryz.params4] at hA hval hsz
  obtain ⟨v0, vs0, d0, ds0, p0, q0, hargs, rfl, rfl, h0, r0⟩ := trodAll_cons hA
  obtain ⟨v1, vs1, d1, ds1, p1, q1, rfl, rfl, rfl, h1, r1⟩ := trodAll_cons r0
  obtain ⟨v2, vs2, d2, ds2, p2, q2, rfl, rfl, rfl, h2, r2⟩ := trodAll_cons r1
  obtain ⟨rfl, rfl, rfl⟩ := trodAll_nil r2
  obtain rfl : args = #[v0, v1, v2] := by cases args; simp_all
  obtain ⟨rfl, rfl⟩ := trodVars_none hV
  obtain ⟨a0, len0, cap0, rfl⟩ := okWide_slice Tryz.underlying38 (hval 0 38 v0 rfl rfl)
  have k0 := h0
  have lt0 : ∀ x ∈ p0, x.block < W.heap.size := by obtain ⟨m, hm⟩ := k0; exact DataW.trod_lt m _ _ _ hm
  obtain ⟨z0, hp0, hs0⟩ : ∃ zs, IsRow .i64 W a0 len0 cap0 zs ∧ cap0 * 8 ≤ 140737488351232 := by
    obtain ⟨fuel, hf⟩ := h0
    rcases open_ints Tryz.underlying38 Tryz.underlying3 (by kernel_rfl) hf with ⟨hcs, _⟩ | ⟨x, l, c, zs, hcs, _, hl, hm, hz, hd, hcell, hwz⟩
    · simp [Value.cells] at hcs
      obtain ⟨rfl, rfl, rfl⟩ := hcs
      exact ⟨[], .inl ⟨rfl, rfl, rfl, rfl⟩, by decide⟩
    · simp [Value.cells] at hcs
      obtain ⟨rfl, rfl, rfl⟩ := hcs
      have hq : d0 = _ := (Prod.mk.inj hd).1
      have := sized_slice hsz (j := 0) (t := 38) rfl (congrArg some hq) Tryz.underlying38
      simp only [ChangeShapes.lits, List.length_map, List.length_take, List.length_drop] at this
      rw [show Tryz.prog.bytesOf 3 = 8 from by kernel_rfl] at this
      simp only [if_true] at hz
      unfold reachBytes at this
      exact ⟨zs, .inr ⟨_, rfl, hl, hm, hz, fun j z hj => by
        have := hcell j (List.getElem?_eq_some_iff.1 hj).1
        rw [List.getD_eq_getElem?_getD, hj] at this
        exact this, hwz⟩, by rw [Nat.min_eq_left (by omega)] at this; omega⟩
  obtain ⟨a1, rfl, rfl, rfl, hp1⟩ := open_int Tryz.underlying3 (hval 1 3 v1 rfl rfl) h1
  obtain ⟨a2, rfl, rfl, rfl, hp2⟩ := open_int Tryz.underlying3 (hval 2 3 v2 rfl rfl) h2
  clear hA0 hval0
  refine (walk a0 len0 cap0 z0 a1 a2 W (Val.homeR_of hL) hp0 hs0 hp1 hp2).mono fun e W' ⟨he, bel⟩ => ?_
  subst he
  exact ⟨_, rfl, _, _, _, [], _, [], hW', trodAll_mk1 (shut_bool Tryz.underlying4 _), (trodAll_cons_mk (Below.trod laidOut (by kernel_rfl) (of_decide_eq_true (by kernel_rfl)) k0 bel lt0) (trodAll_cons_mk (shut_int Tryz.underlying3 hp1) (trodAll_cons_mk (shut_int Tryz.underlying3 hp2) trodAll_mk0))), rfl, bel.frame _, fun h => by cases h⟩

end Go.Proofs.YtcpfhfdgfcilaaaGreatDoor.readUnder
