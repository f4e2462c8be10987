/-
  Several texts in one: An array of values, by the document: its build, structs: contract. · An array of values, by the document: its build, of any node; Build: contract.
-/
import Derived.Test.YtcpfhfdgfcilaaaGreatDoorB20
import Derived.Maps.AppendAt
import Derived.OneCell
import Derived.Laws.OwnMore
import Derived.Deep.CutRange
import Derived.Deep.CutBlock
import Derived.Test.YtcpfhfdgfcilaaaGreatDoorB32
import Derived.Test.YtcpfhfdgfcilaaaGreatDoorB33
import Derived.Test.YtcpfhfdgfcilaaaGreatDoorB34
import Derived.Test.YtcpfhfdgfcilaaaGreatDoorB17
import Derived.Test.YtcpfhfdgfcilaaaGreatDoorB09
set_option linter.unusedVariables false
set_option linter.unusedSimpArgs false
namespace Go.Proofs.YtcpfhfdgfcilaaaGreatDoor.Arr
open Go.ChangeShapes Go.WideShapes Go.ChangeAt Go.RowKit
open Tree Val

theorem getD_mk (l : List (List UInt8)) {j : Nat} (h : j < l.length) : mk (l.getD j []) = (l.map mk).getD j ByteArray.empty := by
  rw [List.getD_eq_getElem?_getD, List.getD_eq_getElem?_getD, List.getElem?_map, List.getElem?_eq_getElem h]
  rfl
/-- The kids' rows, the first j of them with a value more. -/
def linL (R : Nat → Nat → List ByteArray) (M k j : Nat) : List (List ByteArray) := (List.range M).map fun i => if i < j then R (k + 1) i else R k i
theorem lin_length (R : Nat → Nat → List ByteArray) (M k j : Nat) : (linL R M k j).length = M := by simp [linL]
theorem lin_get (R : Nat → Nat → List ByteArray) {M k j i : Nat} (h : i < M) : (linL R M k j).getD i [] = if i < j then R (k + 1) i else R k i := by
  unfold linL
  rw [List.getD_eq_getElem?_getD, List.getElem?_map, List.getElem?_range h]
  rfl
theorem lin_all (R : Nat → Nat → List ByteArray) (M k : Nat) : linL R M k M = linL R M (k + 1) 0 := by
  unfold linL
  refine List.map_congr_left fun i hi => ?_
  rw [if_pos (List.mem_range.1 hi), if_neg (Nat.not_lt_zero _)]
theorem lin_set (R : Nat → Nat → List ByteArray) {M k j : Nat} (h : j < M) : (linL R M k j).set j (R (k + 1) j) = linL R M k (j + 1) := by
  refine List.ext_getElem? fun i => ?_
  by_cases hij : i = j
  · subst hij
    rw [List.getElem?_set_self (by rw [lin_length]; exact h)]
    unfold linL
    rw [List.getElem?_map, List.getElem?_range h]
    simp
  · rw [List.getElem?_set_ne (Ne.symm hij)]
    unfold linL
    rw [List.getElem?_map, List.getElem?_map]
    by_cases hi : i < M
    · rw [List.getElem?_range hi]
      simp only [Option.map_some]
      congr 1
      by_cases c : i < j
      · rw [if_pos c, if_pos (by omega)]
      · rw [if_neg c, if_neg (by omega)]
    · rw [List.getElem?_eq_none (by simpa using hi)]
      rfl
set_option maxRecDepth 20000 in
set_option maxHeartbeats 3200000 in
theorem buildStruct (B f g : Nat) (hB : 4096 ≤ B) (ih : Hid (BuildC B f)) (ns : List Nd) (oT : Option Addr) (capT n : Nat) (ss : List ByteArray) (o : Option Addr) (cap : Nat) (w : World) (hn : n < ns.length) (hm : may ns = true) (hF : AllFit ns (g + 1) n (ss.map bl)) (h64 : ss.length ≤ 64) (hx : Texts.IsTx w o ss) (ht : IsT w oT ns) (hf : ns.length - n ≤ f + 1) (hg : ns.length - n ≤ g + 1) (hk : (nd ns n).kind = 4) :
    Calls Tryz.prog 62 #[.agg #[.slice oT ns.length capT], .int .i64 (n : Int), .slice o ss.length cap] w (BuildQ B (f + 1) ns n (ss.map bl) w) := by
  obtain ⟨w1, e1, s1, c1, b1⟩ := boxed w (.slice oT ns.length capT) 24
  obtain ⟨w2, e2', x2, b2, z2⟩ := box7 w1 nil none 0
  have e2 : w1.alloc (.cells #[.int .i64 0, .int .i64 0, .int .i64 0, .string ⟨#[]⟩, .string ⟨#[]⟩, .string ⟨#[]⟩, .slice none 0 0] 27) = w2 := e2'
  clear e2'
  have hS1 : w.heap.size < w1.heap.size := s1
  have hS2 : w1.heap.size < w2.heap.size := z2
  have B2 : Hid (Below w.heap.size w w2) := bel2 b1 b2
  have HCT : Hid (w2.cell? ⟨w.heap.size, 0, none⟩ = some (.slice oT ns.length capT)) := cell_later b2 c1
  obtain ⟨x, rfl, hl⟩ := ht.some (by omega)
  have HLI : Hid (Lies w x ns) := hl
  have HT : Hid (IsT w (some x) ns) := ht
  have HTX : Hid (Texts.IsTx w o ss) := hx
  have hM := may_of hm
  have HVAL : Hid (∀ v, Below w.heap.size w v → Calls Tryz.prog 112 #[.slice o ss.length cap] v fun r w' => r = .returned (.string (mk (validOf (ss.map bl)))) ∧ Below v.heap.size v w') := fun v hv => validR o cap ss (by omega) v (hx.later hv)
  have HKS : Hid (∀ v, Below w.heap.size w v → Calls Tryz.prog 83 #[.agg #[.slice (some x) ns.length capT], .int .i64 (n : Int)] v fun r w' => ∃ o c, r = .returned (.tuple #[.slice o (kids ns n).length c, .int .i64 0]) ∧ w'.ownsRow v.heap.size 3 1 (.slice o (kids ns n).length c) (kids ns n).length (ints (kids ns n)) ∧ Below v.heap.size v w') := fun v hv => by
    have hB : hasB ns (n : Int) = true := by unfold hasB; rw [hm, decide_eq_true (by omega)]; rfl
    have hKA : kidsA ns (n : Int) = kids ns n := by unfold kidsA; rw [if_pos hB]
    have := kidsR (some x) capT ns (n : Int) v (HT.out.later hv)
    rw [hB, hKA] at this
    exact this
  have j0 : (0 : Int) ≤ (n : Int) := Int.natCast_nonneg _
  have j1 : (n : Int) < (ns.length : Int) := by omega
  obtain ⟨Rr, hRr⟩ : ∃ Rr : Nat → Nat → List ByteArray, ∀ k j, Rr k j = (kidRows ns n ((ss.map bl).take k) j).map mk := ⟨_, fun _ _ => rfl⟩
  have HLM : (ss.map bl).length = ss.length := List.length_map ..
  have hn3 : (nd ns n).kind ≠ 3 := by omega
  have HAT : Hid (∀ k, k < ss.length → TellA (ss.getD k ByteArray.empty) (tellV (bl (ss.getD k ByteArray.empty))).1 ((tellV (bl (ss.getD k ByteArray.empty))).2.map mk) 0 ∧ (0 ≤ (tellV (bl (ss.getD k ByteArray.empty))).1 → ((tellV (bl (ss.getD k ByteArray.empty))).2.map mk).length = (kids ns n).length)) := fun k hk' => ⟨any_at (all_at hF hk'), fun h0 => by
    have hV := fitV hM hn (hF _ (getD_mem' (show k < (ss.map bl).length by omega)))
    rw [bl_at ss hk'] at hV
    rw [List.length_map]
    exact hV.struct hk h0⟩
  have HR0 : Hid (∀ j, Rr 0 j = []) := fun j => by rw [hRr, List.take_zero, kidRows_nil]; rfl
  have HRS : Hid (∀ k j, k < ss.length → Rr (k + 1) j = Rr k j ++ [mk (kidV ns n (bl (ss.getD k ByteArray.empty)) j)]) := fun k j hk' => by
    rw [hRr, hRr, take_snoc _ (by rw [HLM]; exact hk'), kid4_snoc hn3, bl_at ss hk', List.map_append]
    rfl
  have HRL : Hid (∀ k j, k ≤ ss.length → (Rr k j).length = k) := fun k j hk' => by
    rw [hRr, List.length_map, kid4_length hn3, List.length_take, HLM, Nat.min_eq_left hk']
  have HRA : Hid (∀ j, Rr ss.length j = (kidRows ns n (ss.map bl) j).map mk) := fun j => by
    rw [hRr, show (ss.map bl).take ss.length = ss.map bl from by rw [← HLM, List.take_length]]
  have hKL : ∀ j, (kidRows ns n (ss.map bl) j).length ≤ 4096 := fun j => by
    rw [kid4_length hn3, HLM]
    omega
  have HZ : Hid (∀ j, j < (kids ns n).length → ∀ v, Below w.heap.size w v → Calls Tryz.prog 114 #[.agg #[.slice (some x) ns.length capT], .int .i64 ((kAt ns n j : Nat) : Int)] v fun r w' => r = .returned (.string (mk (zeroF ns 8 (kAt ns n j)))) ∧ Below v.heap.size v w') := fun j hj v hv => zeroA 8 ns (some x) capT (kAt ns n j) v (kid_of hM hj).2.1 hm (by have := hM.most; omega) (HT.out.later hv)
  have HA : Hid (endsOf ns n (ss.map bl) = [] ∧ dataOf ns n (ss.map bl) = []) := ⟨endsOf_none (by omega) (by omega) _, dataOf_none (by omega) (by omega) (by omega) _⟩
  obtain ⟨M, hMk⟩ : ∃ M, (kids ns n).length = M := ⟨_, rfl⟩
  have HMK : Hid ((kids ns n).length = M) := hMk
  rw [hMk] at HKS
  have hM8 : M ≤ 8 := by rw [← hMk]; exact Nat.le_trans (length_kidsTo ns n ns.length) hM.most
  have HBI : Hid ((buildF ns (f + 1) n (ss.map bl)).isSome = true ↔ (ss.map bl).length ≤ 64 ∧ ∀ j, j < M → (buildF ns f (kAt ns n j) (kidRows ns n (ss.map bl) j)).isSome = true) := by have := build_iff (f := f) hF; rw [hMk] at this; exact this
  have HKID : Hid (∀ j, j < M → ∀ v o cap, Below w.heap.size w v → Texts.IsTx v o ((kidRows ns n (ss.map bl) j).map mk) → Calls Tryz.prog 62 #[.agg #[.slice (some x) ns.length capT], .int .i64 ((kAt ns n j : Nat) : Int), .slice o ((kidRows ns n (ss.map bl) j).map mk).length cap] v (BuildG B f (buildF ns f (kAt ns n j) (kidRows ns n (ss.map bl) j)) v)) := fun j hj v o cap hv htx => by
    have hkk := kid_of hM (show j < (kids ns n).length by omega)
    have hfit := kidRows_fit hM hn (by omega) hF (show j < (kids ns n).length by omega)
    have e : ((kidRows ns n (ss.map bl) j).map mk).map bl = kidRows ns n (ss.map bl) j := by rw [List.map_map, show (bl ∘ mk) = id from funext fun l => bl_mk l, List.map_id]
    have := ih.out ns (some x) capT (kAt ns n j) g ((kidRows ns n (ss.map bl) j).map mk) o cap v hkk.2.1 hm (by omega) (by omega) (by rw [e]; exact hfit) (by rw [List.length_map]; exact Nat.le_trans (hKL j) (by decide)) htx (HT.out.later hv)
    rw [e] at this
    exact this
  rw [hMk] at HAT HZ
  clear hRr HLM hKL hf hg hn3
  have n0 := hl.kind' n hn
  rw [hk] at n0
  have HN0 : Hid (w.cell? (x.add (n * 3)) = some (.int .i64 4)) := n0
  generalize hvd : validOf (ss.map bl) = vd at *
  have q0 : decide ((64 : Int) < ((ss.length : Nat) : Int)) = false := decide_eq_false (by omega)
  have hlen0 : (0 : Int) ≤ ((ss.length : Nat) : Int) := Int.natCast_nonneg _
  have B1 : Hid (Below w.heap.size w w1) := b1
  clear s1 c1 b1 b2 hl hx ht z2 n0
  go_enter Tryz.func62, Tryz.ntmps62
  go_wp2_with fail
  refine (HVAL.out w2 B2.out).mono ?_
  rintro e w3 ⟨rfl, b3⟩
  have B3 : Hid (Below w.heap.size w w3) := bel2 B2.out b3
  have hS3 := b3.size
  have XR3 : Hid (Bx w3 w1.heap.size nil none 0) := x2.later b3
  have HC3 : Hid (w3.cell? ⟨w.heap.size, 0, none⟩ = some (.slice (some x) ns.length capT)) := cell_later b3 HCT.out
  obtain ⟨w4, e4', x4, b4, z4⟩ := box7 w3 nil none 0
  have e4 : w3.alloc (.cells #[.int .i64 0, .int .i64 0, .int .i64 0, .string ⟨#[]⟩, .string ⟨#[]⟩, .string ⟨#[]⟩, .slice none 0 0] 27) = w4 := e4'
  have m0 := x4.c0
  have m1 := x4.c1
  have m2 := x4.c2
  have m3 := x4.c3
  have m4 := x4.c4
  have m5 := x4.c5
  have m6 := x4.c6
  have f0 := x4.fz 0
  have f1 := x4.fz 1
  have f2 := x4.fz 2
  have f3 := x4.fz 3
  have f4 := x4.fz 4
  have f5 := x4.fz 5
  have f6 := x4.fz 6
  clear e4' b3 x2 e1 e2
  go_upto_region 2 with fail
  obtain ⟨w5, e5, x5, h5, k5⟩ := set7 x4 ⟨0, 0, ((ss.length : Nat) : Int), mk vd, ⟨#[]⟩, ⟨#[]⟩, []⟩ none 0
  have e5' : ((((((w4.setCell ⟨w3.heap.size, 0, none⟩ (.int .i64 0)).setCell ⟨w3.heap.size, 1, none⟩ (.int .i64 0)).setCell ⟨w3.heap.size, 2, none⟩ (.int .i64 ((ss.length : Nat) : Int))).setCell ⟨w3.heap.size, 3, none⟩ (.string (mk vd))).setCell ⟨w3.heap.size, 4, none⟩ (.string ⟨#[]⟩)).setCell ⟨w3.heap.size, 5, none⟩ (.string ⟨#[]⟩)).setCell ⟨w3.heap.size, 6, none⟩ (.slice none 0 0) = w5 := e5
  rw [e5']
  have B5 : Hid (Below w.heap.size w w5) := (bel2 B3.out b4).trans (k5 w.heap.size (by omega))
  have XR4 := XR3.out.later b4
  have XR5 : Hid (Bx w5 w1.heap.size nil none 0) := ⟨(h5 _ (by omega)).trans XR4.blk⟩
  have HC5 : Hid (w5.cell? ⟨w.heap.size, 0, none⟩ = some (.slice (some x) ns.length capT)) := (World.cell?_of_block (w := w4) (h5 w.heap.size (by omega))).trans (cell_later b4 HC3.out)
  have X5 : Hid (Bx w5 w3.heap.size ⟨0, 0, ((ss.length : Nat) : Int), mk vd, ⟨#[]⟩, ⟨#[]⟩, []⟩ none 0) := x5
  have hS5 : w3.heap.size < w5.heap.size := x5.lt
  have cT := HC5.out
  clear m0 m1 m2 m3 m4 m5 m6 f0 f1 f2 f3 f4 f5 f6 e5 e5' e4 x5 x4 b4 z4 h5 k5 XR4
  go_wp2_with fail
  refine (HKS.out w5 B5.out).mono ?_
  rintro e w6 ⟨oK, cK, rfl, hownK, b6⟩
  have B6 : Hid (Below w5.heap.size w5 w6) := b6
  have HOK : Hid (w6.ownsRow w5.heap.size 3 1 (.slice oK M cK) M (ints (kids ns n))) := hownK
  obtain ⟨cur, hmk, hcs, hcn⟩ := make_rows M (by omega) w6
  obtain ⟨w7, e7⟩ : ∃ w7, w6.alloc (.cells cur 29) = w7 := ⟨_, rfl⟩
  rw [e7] at hmk
  have b7 : Below w6.heap.size w6 w7 := by rw [← e7]; exact (Below.refl _ _).alloc (Nat.le_refl _) _
  have B57 : Hid (Below w5.heap.size w5 w7) := bel2 b6 b7
  have B7 : Hid (Below w.heap.size w w7) := bel2 B5.out B57.out
  have X7 : Hid (Bx w7 w3.heap.size ⟨0, 0, ((ss.length : Nat) : Int), mk vd, ⟨#[]⟩, ⟨#[]⟩, []⟩ none 0) := X5.out.later B57.out
  have XR7 : Hid (Bx w7 w1.heap.size nil none 0) := XR5.out.later B57.out
  have HC7 : Hid (w7.cell? ⟨w.heap.size, 0, none⟩ = some (.slice (some x) ns.length capT)) := cell_later B57.out HC5.out
  have HR7 : Hid (RowsIn 29 9 w7 w6.heap.size w7.heap.size cur (List.replicate M [])) := by
    have h1 := rowsIn_new 29 9 w6 M hcs hcn
    have h2 : w6.heap.size + 1 = w7.heap.size := by rw [← e7]; simp
    rw [e7, h2] at h1
    exact h1
  have hS6 : w5.heap.size ≤ w6.heap.size := b6.size
  have hS7 : w6.heap.size < w7.heap.size := HR7.out.low
  have HK7 : Hid (∀ j, j < M → ∃ gK, oK = some ⟨gK, 0, none⟩ ∧ w5.heap.size ≤ gK ∧ gK < w6.heap.size ∧ w7.cell? ⟨gK, j, none⟩ = some (.int .i64 ((kAt ns n j : Nat) : Int))) := fun j hj => by
    rcases HOK.out.2 with ⟨e, e0⟩ | ⟨g, cp, cu, e, h1, h2, _⟩
    · omega
    · injection e with e1 e2 e3
      subst e1
      refine ⟨g, rfl, h1, (Array.getElem?_eq_some_iff.1 h2).1, cell_later b7 ?_⟩
      have := HOK.out.cells rfl j (.int .i64 ((kAt ns n j : Nat) : Int)) (by
        unfold ints kAt
        rw [List.getElem?_map, List.getD_eq_getElem?_getD, List.getElem?_eq_getElem (show j < (kids ns n).length by rw [HMK.out]; exact hj)]
        rfl)
      rw [add0] at this
      exact this
  clear b6 b7 hownK e7 cT hcs hcn
  go_wp2_with fail
  go_loopw [13, 14, 15, 16, 18, 19] (fun i _ _ _ _ _ wr => ∃ (k : Nat) (cu : Array Value), k ≤ ss.length ∧ i = .int .i64 (k : Int) ∧ RowsIn 29 9 wr w6.heap.size w7.heap.size cu (linL Rr M k 0) ∧ Kept (fun q => q = w6.heap.size) w7 wr) (fun i _ _ _ _ _ _ => ss.length - (intOf i).toNat)
  case atStart => exact ⟨0, cur, Nat.zero_le _, rfl, by
    have e : linL Rr M 0 0 = List.replicate M [] := by
      unfold linL
      rw [List.map_congr_left (g := fun _ => []) (fun i _ => by rw [if_neg (Nat.not_lt_zero _), HR0.out]), List.map_const']
      simp
    rw [e]
    exact HR7.out, Kept.refl _ _⟩
  case round =>
    obtain ⟨k, cu, hk2, rfl, hri, hkp⟩ := hrel
    have KP : Hid (Kept (fun q => q = w6.heap.size) w7 wr) := hkp
    have BR : Hid (Below w.heap.size w wr) := hkp.down B7.out (fun q hq => by have hq2 : q = w6.heap.size := hq; omega)
    have HCR : Hid (wr.cell? ⟨w.heap.size, 0, none⟩ = some (.slice (some x) ns.length capT)) := hkp.cell HC7.out (by show ¬ (w.heap.size = w6.heap.size); omega)
    have XRR : Hid (Bx wr w1.heap.size nil none 0) := ⟨hkp.heap XR7.out.blk (by show ¬ (w1.heap.size = w6.heap.size); omega)⟩
    have XB : Hid (Bx wr w3.heap.size ⟨0, 0, ((ss.length : Nat) : Int), mk vd, ⟨#[]⟩, ⟨#[]⟩, []⟩ none 0) := ⟨hkp.heap X7.out.blk (by show ¬ (w3.heap.size = w6.heap.size); omega)⟩
    have HRI : Hid (RowsIn 29 9 wr w6.heap.size w7.heap.size cu (linL Rr M k 0)) := hri
    have hSR : w7.heap.size ≤ wr.heap.size := hkp.size
    clear hri hkp
    by_cases hlt : k < ss.length
    ·
      obtain ⟨y, rfl, hy⟩ := tx_at HTX.out (by omega)
      have cs := cell_later BR.out (hy k hlt)
      have i0 : (0 : Int) ≤ (k : Int) := Int.natCast_nonneg _
      have i1 : (k : Int) < ((ss.length : Nat) : Int) := by omega
      clear hy
      obtain ⟨hT, hps⟩ := HAT.out k hlt
      have HRK : Hid (∀ j, Rr (k + 1) j = Rr k j ++ [mk (kidV ns n (bl (ss.getD k ByteArray.empty)) j)]) := fun j => HRS.out k j hlt
      have HRN : Hid (∀ j, (Rr k j).length = k) := fun j => HRL.out k j hk2
      have HKV : Hid (∀ j, j < M → ((tellV (bl (ss.getD k ByteArray.empty))).1 < 0 → mk (kidV ns n (bl (ss.getD k ByteArray.empty)) j) = mk (zeroF ns 8 (kAt ns n j))) ∧ (0 ≤ (tellV (bl (ss.getD k ByteArray.empty))).1 → mk (kidV ns n (bl (ss.getD k ByteArray.empty)) j) = ((tellV (bl (ss.getD k ByteArray.empty))).2.map mk).getD j ByteArray.empty)) := fun j hj => by
        unfold kidV
        refine ⟨fun h0 => by rw [if_pos h0], fun h0 => ?_⟩
        have hl := hps h0
        rw [List.length_map] at hl
        rw [if_neg (by omega)]
        exact getD_mk _ (by omega)
      have HPC : Hid (∀ v, Calls Tryz.prog 111 #[.string (ss.getD k ByteArray.empty)] v fun r w' => ∃ o cap, r = .returned (.tuple #[.int .i64 (tellV (bl (ss.getD k ByteArray.empty))).1, .slice o ((tellV (bl (ss.getD k ByteArray.empty))).2.map mk).length cap, .int .i64 0]) ∧ w'.ownsRow v.heap.size 9 1 (.slice o ((tellV (bl (ss.getD k ByteArray.empty))).2.map mk).length cap) ((tellV (bl (ss.getD k ByteArray.empty))).2.map mk).length (Texts.cellsT ((tellV (bl (ss.getD k ByteArray.empty))).2.map mk)) ∧ Below v.heap.size v w') := fun v => partsR _ _ _ 0 hT v
      have HPS : Hid (0 ≤ (tellV (bl (ss.getD k ByteArray.empty))).1 → ((tellV (bl (ss.getD k ByteArray.empty))).2.map mk).length = M) := hps
      have i3 : ((ss.length : Nat) : Int) ≤ 64 := by omega
      have cT := HCR.out
      clear hT hps
      generalize (tellV (bl (ss.getD k ByteArray.empty))).1 = K at *
      generalize (tellV (bl (ss.getD k ByteArray.empty))).2.map mk = ps at *
      generalize kidV ns n (bl (ss.getD k ByteArray.empty)) = kv at *
      generalize ss.getD k ByteArray.empty = s at *
      go_wp2_with fail
      refine (HPC.out wr).mono ?_
      rintro e w8 ⟨oP, cP, rfl, hownP, b8⟩
      have B8 : Hid (Below wr.heap.size wr w8) := b8
      have HOP : Hid (w8.ownsRow wr.heap.size 9 1 (.slice oP ps.length cP) ps.length (Texts.cellsT ps)) := hownP
      clear cs cT hownP b8
      have cT := cell_later B8.out HCR.out
      have n0 := cell_later (bel2 BR.out B8.out) HN0.out
      have K8 : Hid (Kept (fun q => q = w6.heap.size) w7 w8) := KP.out.below B8.out
      have HR8 : Hid (RowsIn 29 9 w8 w6.heap.size w7.heap.size cu (linL Rr M k 0)) := HRI.out.later B8.out
      have hlM : (0 : Int) ≤ (M : Int) := Int.natCast_nonneg _
      go_wp2_with fail
      generalize wr = wo at *
      go_loopw [18, 19] (fun jv _ wq => ∃ (j : Nat) (cv : Array Value), j ≤ M ∧ jv = .int .i64 (j : Int) ∧ RowsIn 29 9 wq w6.heap.size w7.heap.size cv (linL Rr M k j) ∧ Kept (fun q => q = w6.heap.size) w7 wq ∧ wq.ownsRow wo.heap.size 9 1 (.slice oP ps.length cP) ps.length (Texts.cellsT ps) ∧ wo.heap.size ≤ wq.heap.size ∧ ∀ (i : Nat) (u : Value) (q : Nat), j ≤ i → cv[i]? = some u → u.ownBlock = some q → q < wo.heap.size) (fun jv _ _ => M - (intOf jv).toNat)
      case atStart => exact ⟨0, cu, Nat.zero_le _, rfl, HR8.out, K8.out, HOP.out, B8.out.size, fun i u q _ hu hq => by
        have hi : i < M := by
          have := (Array.getElem?_eq_some_iff.1 hu).1
          have h2 := HRI.out.len
          rw [lin_length] at h2
          omega
        obtain ⟨o', c', h1, h2⟩ := HRI.out.row i (by rw [lin_length]; exact hi)
        rw [h1] at hu
        injection hu with hu
        subst hu
        exact (h2.lt q hq).2⟩
      case round =>
        obtain ⟨j, cv, hj2, rfl, hri, hkp, hop, hsz2, hold⟩ := hrel
        have HRQ : Hid (RowsIn 29 9 wr w6.heap.size w7.heap.size cv (linL Rr M k j)) := hri
        have K7Q : Hid (Kept (fun q => q = w6.heap.size) w7 wr) := hkp
        have HOQ : Hid (wr.ownsRow wo.heap.size 9 1 (.slice oP ps.length cP) ps.length (Texts.cellsT ps)) := hop
        have HOLD : Hid (∀ (i : Nat) (u : Value) (q : Nat), j ≤ i → cv[i]? = some u → u.ownBlock = some q → q < wo.heap.size) := hold
        have HSZ2 : Hid (wo.heap.size ≤ wr.heap.size) := hsz2
        have hS8 : w7.heap.size ≤ w8.heap.size := K8.out.size
        have BQ : Hid (Below w.heap.size w wr) := K7Q.out.down B7.out (fun q hq => by have hq2 : q = w6.heap.size := hq; omega)
        have HCQ : Hid (wr.cell? ⟨w.heap.size, 0, none⟩ = some (.slice (some x) ns.length capT)) := K7Q.out.cell HC7.out (by show ¬ (w.heap.size = w6.heap.size); omega)
        have hSQ : w7.heap.size ≤ wr.heap.size := K7Q.out.size
        clear hri hkp cT n0 hop hold hsz2
        by_cases hlj : j < M
        · obtain ⟨gK, rfl, hg1, hg2, hgc⟩ := HK7.out j hlj
          have HGC : Hid (wr.cell? ⟨gK, j, none⟩ = some (.int .i64 ((kAt ns n j : Nat) : Int))) := K7Q.out.cell hgc (by show ¬ (gK = w6.heap.size); omega)
          have HZJ : Hid (∀ v, Below w.heap.size w v → Calls Tryz.prog 114 #[.agg #[.slice (some x) ns.length capT], .int .i64 ((kAt ns n j : Nat) : Int)] v fun r w' => r = .returned (.string (mk (zeroF ns 8 (kAt ns n j)))) ∧ Below v.heap.size v w') := HZ.out j hlj
          obtain ⟨hv1, hv2⟩ := HKV.out j hlj
          have HV1 : Hid (K < 0 → mk (kv j) = mk (zeroF ns 8 (kAt ns n j))) := hv1
          have HV2 : Hid (0 ≤ K → mk (kv j) = ps.getD j ByteArray.empty) := hv2
          obtain ⟨oR, cR, hR, hRO⟩ := HRQ.out.cell (j := j) (by rw [lin_length]; exact hlj)
          have eR : (linL Rr M k j).getD j [] = Rr k j := by rw [lin_get Rr hlj, if_neg (Nat.lt_irrefl _)]
          rw [eR, HRN.out j] at hR hRO
          have HRC : Hid (wr.cell? ⟨w6.heap.size, j, none⟩ = some (.slice oR k cR)) := hR
          have HRO : Hid (wr.ownsRow w7.heap.size 9 1 (.slice oR k cR) k (Texts.cellsT (Rr k j))) := hRO
          have i4 : (0 : Int) ≤ (j : Int) := Int.natCast_nonneg _
          have i5 : (j : Int) < (M : Int) := by omega
          generalize hZj : mk (zeroF ns 8 (kAt ns n j)) = zj at *
          generalize kAt ns n j = kn at *
          clear hv1 hv2 hR hRO eR hgc
          have KLA : Hid (∀ W', Below wr.heap.size wr W' → (W'.cell? ⟨w.heap.size, 0, none⟩ = some (.slice (some x) ns.length capT) ∧ W'.cell? ⟨gK, j, none⟩ = some (.int .i64 ((kn : Nat) : Int)))) := fun W' hb => ⟨cell_later hb HCQ.out, cell_later hb HGC.out⟩
          have BD : Hid (Below wr.heap.size wr wr.drew) := drewN_below wr 1
          have KR : Hid (wr.drew.cell? ⟨w.heap.size, 0, none⟩ = some (.slice (some x) ns.length capT) ∧ wr.drew.cell? ⟨gK, j, none⟩ = some (.int .i64 ((kn : Nat) : Int))) := KLA.out _ BD.out
          have cT := HCQ.out
          have hgc := HGC.out
          go_wp2_with fail
          refine wp_region_noPanic ?_
          refine wp_region_held_drew (S := fun W : World => W.cell? ⟨w.heap.size, 0, none⟩ = some (.slice (some x) ns.length capT) ∧ W.cell? ⟨gK, j, none⟩ = some (.int .i64 ((kn : Nat) : Int))) (by kernel_rfl) KR.out (fun h0 => ?_)
          generalize wr.drew = wd at *
          refine take_at (i := 0) (d := some 68) (v := ?v0z15) rfl rfl (by kernel_rfl) (by kernel_rfl) (by kernel_rfl) (fun _ _ _ h => h) (Or.inl ⟨by rfl, ?y0z15⟩) h0 ?r0z15
          case y0z15 => (intro w' hSw; (try dsimp only at hSw); go_simp; try with_reducible rfl)
          try simp only [Act.put, List.setIfInBounds_toArray, List.set_cons_zero, List.set_cons_succ]
          refine take_at (i := 1) (d := some 69) (v := ?v1z15) rfl rfl (by kernel_rfl) (by kernel_rfl) (by kernel_rfl) (fun _ _ _ h => h) (Or.inl ⟨by rfl, ?y1z15⟩) h0 ?r1z15
          case y1z15 => (intro w' hSw; (try dsimp only at hSw); go_simp; try with_reducible rfl)
          try simp only [Act.put, List.setIfInBounds_toArray, List.set_cons_zero, List.set_cons_succ]
          refine take_at (i := 2) (d := some 70) (v := ?v2z15) rfl rfl (by kernel_rfl) (by kernel_rfl) (by kernel_rfl) (fun _ _ _ h => h) (Or.inl ⟨by rfl, ?y2z15⟩) h0 ?r2z15
          case y2z15 => (intro w' hSw; (try dsimp only at hSw); go_simp; try with_reducible rfl)
          try simp only [Act.put, List.setIfInBounds_toArray, List.set_cons_zero, List.set_cons_succ]
          refine take_at (i := 3) (d := some 71) (v := ?v3z15) rfl rfl (by kernel_rfl) (by kernel_rfl) (by kernel_rfl) (fun _ _ _ h => h) (Or.inl ⟨by rfl, ?y3z15⟩) h0 ?r3z15
          case y3z15 => (intro w' hSw; (try dsimp only at hSw); go_simp; try with_reducible rfl)
          try simp only [Act.put, List.setIfInBounds_toArray, List.set_cons_zero, List.set_cons_succ]
          refine take_at (i := 4) (d := some 72) (v := ?v4z15) rfl rfl (by kernel_rfl) (by kernel_rfl) (by kernel_rfl) (fun _ _ _ h => h) (Or.inl ⟨by rfl, ?y4z15⟩) h0 ?r4z15
          case y4z15 => (intro w' hSw; (try dsimp only at hSw); go_simp; try with_reducible rfl)
          try simp only [Act.put, List.setIfInBounds_toArray, List.set_cons_zero, List.set_cons_succ]
          refine wpAnyH_ready (rs := [5]) (by kernel_rfl) (by simp) ?_
          refine AllReadyH.cons rfl (fun K hK => ?_) AllReadyH.nil
          go_simp
          go_at_call 114
          refine (HZJ.out _ (bel2 BQ.out BD.out)).mono ?_
          rintro e w9 ⟨rfl, b9⟩
          have B9 : Hid (Below wr.heap.size wr w9) := bel2 BD.out b9
          have K9b : Hid (w9.cell? ⟨w.heap.size, 0, none⟩ = some (.slice (some x) ns.length capT) ∧ w9.cell? ⟨gK, j, none⟩ = some (.int .i64 ((kn : Nat) : Int))) := KLA.out _ B9.out
          clear b9
          refine hK.out _ _ K9b.out (fun h1 => ?_)
          clear hK K
          try simp only [Act.put, List.setIfInBounds_toArray, List.set_cons_zero, List.set_cons_succ]
          refine take_at (i := 6) (d := some 19) (v := ?v6z15) rfl rfl (by kernel_rfl) (by kernel_rfl) (by kernel_rfl) (fun _ _ _ h => h) (Or.inl ⟨by rfl, ?y6z15⟩) h1 ?r6z15
          case y6z15 => (intro w' hSw; (try dsimp only at hSw); go_simp; try with_reducible rfl)
          try simp only [Act.put, List.setIfInBounds_toArray, List.set_cons_zero, List.set_cons_succ]
          refine wpAnyH_done (by kernel_rfl) ?_ _
          refine NoPanic.normal ?_
          have hS9 := B9.out.size
          have HRP : Hid (RowsIn 29 9 w9 w6.heap.size w7.heap.size cv (linL Rr M k j)) := HRQ.out.later B9.out
          have HCA : Hid (w9.cell? ⟨w6.heap.size, j, none⟩ = some (.slice oR k cR)) := cell_later B9.out HRC.out
          have hoa : w9.ownsRow w7.heap.size 9 1 (.slice oR k cR) k (Texts.cellsT (Rr k j)) := row_later HRO.out B9.out
          have K9 : Hid (Kept (fun q => q = w6.heap.size) w7 w9) := K7Q.out.below B9.out
          have HOP9 : Hid (w9.ownsRow wo.heap.size 9 1 (.slice oP ps.length cP) ps.length (Texts.cellsT ps)) := row_later HOQ.out B9.out
          have HRB : Hid (∀ q, (Value.slice oR k cR).ownBlock = some q → q < wo.heap.size) := fun q hq => by
            have h1 : wr.cell? ⟨w6.heap.size, j, none⟩ = cv[j]? := by simp [World.cell?, HRQ.out.blk]
            exact HOLD.out j _ q (Nat.le_refl _) (h1.symm.trans HRC.out) hq
          have HW6 : Hid (w6.heap.size < wo.heap.size) := by have := hSR; unfold Hid; omega
          have hza : w7.heap.size ≤ w9.heap.size := by omega
          have h6 : w6.heap.size < w9.heap.size := by omega
          have hca := HCA.out
          have hkl : k = (Rr k j).length := (HRN.out j).symm
          have HKL2 : Hid (k = (Rr k j).length) := hkl
          clear KLA KR BD HZJ hkl hgc
          by_cases hK : 0 ≤ K
          · have HVV : Hid (mk (kv j) = ps.getD j ByteArray.empty) := HV2.out hK
            have hpl := HPS.out hK
            have hpc : ∃ gP, oP = some gP ∧ w9.cell? (gP.add j) = some (.string (mk (kv j))) := by
              obtain ⟨y2, e, hy⟩ := tx_at (Texts.own_texts (row_later HOQ.out B9.out)) (by omega)
              exact ⟨y2, e, by rw [HVV.out]; exact hy j (by omega)⟩
            obtain ⟨gP, rfl, hpcell⟩ := hpc
            have i6 : (j : Int) < ((ps.length : Nat) : Int) := by omega
            have t1 : decide ((0 : Int) ≤ K) = true := decide_eq_true hK
            generalize hsv : mk (kv j) = sv at *
            clear hpl
            have HSV : Hid ((Rr k j ++ [sv]).length = k + 1) := by unfold Hid; rw [List.length_append, ← HKL2.out]; rfl
            go_wp2_with (at_builtin; refine wpList_append_texts rfl (.tmp 85) (.tmp 87) rfl rfl rfl (hoa.alloc _) HKL2.out rfl (one_text w9 sv (Nat.zero_le _)) (by simp; omega) (by simp; omega) ?_)
            intro v11 w11 hown11 hgrow0 hblk
            have hgrow := grown_alloc hgrow0
            have HGR : Hid (RowsIn 29 9 (w11.setCell ⟨w6.heap.size, j, none⟩ v11) w6.heap.size w7.heap.size (cv.setIfInBounds j v11) (linL Rr M k (j + 1))) := by
              rw [← lin_set Rr hlj, HRK.out j, hsv]
              exact HRP.out.grow HCA.out (by rw [lin_length]; exact hlj) hza (by rw [HSV.out]; have hh := hown11; rw [← HKL2.out] at hh; exact hh) hgrow (n5 := w9.heap.size + 1) (Nat.le_succ _) (by simpa using hblk)
            have hc6 : w11.cell? ⟨w6.heap.size, j, none⟩ = some (.slice oR k cR) := (World.cell?_of_block (w := w9) (hgrow.block _ h6 (fun c => by have := (hoa.lt w6.heap.size c.symm).1; omega))).trans HCA.out
            have hf6 : w11.frozen? ⟨w6.heap.size, j, none⟩ = false := (World.frozen?_of_block (w := w9) (hgrow.block _ h6 (fun c => by have := (hoa.lt w6.heap.size c.symm).1; omega))).trans (HRP.out.fz j)
            have K11 : Hid (Kept (fun q => q = w6.heap.size) w7 (w11.setCell ⟨w6.heap.size, j, none⟩ v11)) := (K9.out.grown hgrow (fun q hq => .inr (hoa.lt q hq).1)).set rfl _
            have HOP11 : Hid ((w11.setCell ⟨w6.heap.size, j, none⟩ v11).ownsRow wo.heap.size 9 1 (.slice (some gP) ps.length cP) ps.length (Texts.cellsT ps)) := by
              refine row_set (p := ⟨w6.heap.size, j, none⟩) (HOP9.out.kept hgrow ?_) HW6.out _
              cases hob : (Value.slice (some gP) ps.length cP).ownBlock with
              | none => exact .inl rfl
              | some g => exact .inr (fun c => by have h1 := (HOP9.out.lt g hob).1; have h2 := HRB.out g c.symm; omega)
            have HOLD2 : Hid (∀ (i : Nat) (u : Value) (q : Nat), j + 1 ≤ i → (cv.setIfInBounds j v11)[i]? = some u → u.ownBlock = some q → q < wo.heap.size) := fun i u q hi hu hq => by
              rw [Array.getElem?_setIfInBounds_ne (by omega)] at hu
              exact HOLD.out i u q (by omega) hu hq
            have HSZ3 : Hid (wo.heap.size ≤ (w11.setCell ⟨w6.heap.size, j, none⟩ v11).heap.size) := by have h1 := hgrow.size; have h2 := HSZ2.out; unfold Hid; simp [World.setCell]; omega
            obtain ⟨o11, c11, rfl⟩ := ownsRow_len hown11
            clear hown11 hgrow hgrow0 hblk hoa hca
            go_wp2
            go_roundw
            case rel => exact ⟨j + 1, _, by omega, by go_num, HGR.out, K11.out, HOP11.out, HSZ3.out, HOLD2.out⟩
            case measure => simp [intOf]; omega
          · have HVV : Hid (mk (kv j) = zj) := HV1.out (by omega)
            have t1 : decide ((0 : Int) ≤ K) = false := decide_eq_false hK
            rw [← HVV.out] at *
            generalize hsv : mk (kv j) = sv at *
            have HSV : Hid ((Rr k j ++ [sv]).length = k + 1) := by unfold Hid; rw [List.length_append, ← HKL2.out]; rfl
            go_wp2_with (at_builtin; refine wpList_append_texts rfl (.tmp 85) (.tmp 87) rfl rfl rfl (hoa.alloc _) HKL2.out rfl (one_text w9 sv (Nat.zero_le _)) (by simp; omega) (by simp; omega) ?_)
            intro v11 w11 hown11 hgrow0 hblk
            have hgrow := grown_alloc hgrow0
            have HGR : Hid (RowsIn 29 9 (w11.setCell ⟨w6.heap.size, j, none⟩ v11) w6.heap.size w7.heap.size (cv.setIfInBounds j v11) (linL Rr M k (j + 1))) := by
              rw [← lin_set Rr hlj, HRK.out j, hsv]
              exact HRP.out.grow HCA.out (by rw [lin_length]; exact hlj) hza (by rw [HSV.out]; have hh := hown11; rw [← HKL2.out] at hh; exact hh) hgrow (n5 := w9.heap.size + 1) (Nat.le_succ _) (by simpa using hblk)
            have hc6 : w11.cell? ⟨w6.heap.size, j, none⟩ = some (.slice oR k cR) := (World.cell?_of_block (w := w9) (hgrow.block _ h6 (fun c => by have := (hoa.lt w6.heap.size c.symm).1; omega))).trans HCA.out
            have hf6 : w11.frozen? ⟨w6.heap.size, j, none⟩ = false := (World.frozen?_of_block (w := w9) (hgrow.block _ h6 (fun c => by have := (hoa.lt w6.heap.size c.symm).1; omega))).trans (HRP.out.fz j)
            have K11 : Hid (Kept (fun q => q = w6.heap.size) w7 (w11.setCell ⟨w6.heap.size, j, none⟩ v11)) := (K9.out.grown hgrow (fun q hq => .inr (hoa.lt q hq).1)).set rfl _
            have HOP11 : Hid ((w11.setCell ⟨w6.heap.size, j, none⟩ v11).ownsRow wo.heap.size 9 1 (.slice oP ps.length cP) ps.length (Texts.cellsT ps)) := by
              refine row_set (p := ⟨w6.heap.size, j, none⟩) (HOP9.out.kept hgrow ?_) HW6.out _
              cases hob : (Value.slice oP ps.length cP).ownBlock with
              | none => exact .inl rfl
              | some g => exact .inr (fun c => by have h1 := (HOP9.out.lt g hob).1; have h2 := HRB.out g c.symm; omega)
            have HOLD2 : Hid (∀ (i : Nat) (u : Value) (q : Nat), j + 1 ≤ i → (cv.setIfInBounds j v11)[i]? = some u → u.ownBlock = some q → q < wo.heap.size) := fun i u q hi hu hq => by
              rw [Array.getElem?_setIfInBounds_ne (by omega)] at hu
              exact HOLD.out i u q (by omega) hu hq
            have HSZ3 : Hid (wo.heap.size ≤ (w11.setCell ⟨w6.heap.size, j, none⟩ v11).heap.size) := by have h1 := hgrow.size; have h2 := HSZ2.out; unfold Hid; simp [World.setCell]; omega
            obtain ⟨o11, c11, rfl⟩ := ownsRow_len hown11
            clear hown11 hgrow hgrow0 hblk hoa hca
            go_wp2
            go_roundw
            case rel => exact ⟨j + 1, _, by omega, by go_num, HGR.out, K11.out, HOP11.out, HSZ3.out, HOLD2.out⟩
            case measure => simp [intOf]; omega
        · obtain rfl : j = M := by omega
          have XQ : Hid (Bx wr w1.heap.size nil none 0) := ⟨K7Q.out.heap XR7.out.blk (by show ¬ (w1.heap.size = w6.heap.size); omega)⟩
          have HRE : Hid (RowsIn 29 9 wr w6.heap.size w7.heap.size cv (linL Rr j (k + 1) 0)) := by rw [← lin_all]; exact HRQ.out
          go_wp2
          go_roundw
          case rel => exact ⟨k + 1, cv, by omega, by go_num, HRE.out, K7Q.out⟩
          case measure => simp [intOf]; omega
    · obtain rfl : k = ss.length := by omega
      have HLL : Hid ((linL Rr M ss.length 0).length = M ∧ ∀ j, j < M → (linL Rr M ss.length 0).getD j [] = (kidRows ns n (ss.map bl) j).map mk) := ⟨lin_length _ _ _ _, fun j hj => by rw [lin_get Rr hj, if_neg (Nat.not_lt_zero _), HRA.out]⟩
      have i3 : ((ss.length : Nat) : Int) ≤ 64 := by omega
      have cT := HCR.out
      have n0 := cell_later BR.out HN0.out
      have XF : Hid (Bx wr w3.heap.size ⟨0, 0, ((ss.length : Nat) : Int), mk vd, ⟨#[]⟩, ⟨#[]⟩, []⟩ none 0) := XB.out
      have XRF : Hid (Bx wr w1.heap.size nil none 0) := XRR.out
      have HCF : Hid (wr.cell? ⟨w.heap.size, 0, none⟩ = some (.slice (some x) ns.length capT)) := HCR.out
      have KF : Hid (Kept (fun q => q = w3.heap.size ∨ q = w6.heap.size) w7 wr) := (Kept.refl _ _).under KP.out (fun q hq => .inr hq)
      have BF : Hid (Below w.heap.size w wr) := BR.out
      have RF : Hid (RowsIn 29 9 wr w6.heap.size w7.heap.size cu (linL Rr M ss.length 0)) := HRI.out
      have i9 : ByteArray.size ⟨#[]⟩ = 0 := rfl
      have hS35 : w3.heap.size < wr.heap.size := XF.out.lt
      clear HRI HCR BR KP XRR XB hlt HAT HRS HRL HR0 HRA HZ
      generalize linL Rr M ss.length 0 = Lz at *
      generalize wr = wk at *
      go_wp2_with fail
      obtain ⟨i27, hi27, hz270, hz271, hz272⟩ := info_parts info27
      have HKLN : Hid ((built ns f n (ss.map bl)).kids.length = M) := by unfold Hid built; simp only; rw [List.length_map, List.length_range]; exact HMK.out
      have hSK : w7.heap.size ≤ wk.heap.size := KF.out.size
      go_loopw [20, 21, 22] (fun jv _ _ wr => ∃ (j : Nat) (css : List (List Value)) (ov : Option Addr) (cv : Nat), j ≤ M ∧ jv = .int .i64 (j : Int) ∧ (∀ i, i < j → (buildF ns f (kAt ns n i) (kidRows ns n (ss.map bl) i)).isSome = true) ∧ Copied B f (built ns f n (ss.map bl)) wk.heap.size j (.slice ov j cv) wr css ∧ Bx wr w3.heap.size ⟨0, 0, ((ss.length : Nat) : Int), mk vd, ⟨#[]⟩, ⟨#[]⟩, List.replicate j nil⟩ ov cv ∧ Kept (fun q => q = w3.heap.size) wk wr) (fun jv _ _ _ => M - (intOf jv).toNat)
      case atStart => exact ⟨0, [], none, 0, Nat.zero_le _, rfl, fun i hi => by omega, copied0 _ _ _ _ _, XF.out, Kept.refl _ _⟩
      case round =>
        obtain ⟨j, css, ov, cv, hj2, rfl, hall, hcp, hbx, hkp⟩ := hrel
        have CP : Hid (Copied B f (built ns f n (ss.map bl)) wk.heap.size j (.slice ov j cv) wr css) := hcp
        have XB : Hid (Bx wr w3.heap.size ⟨0, 0, ((ss.length : Nat) : Int), mk vd, ⟨#[]⟩, ⟨#[]⟩, List.replicate j nil⟩ ov cv) := hbx
        have KP : Hid (Kept (fun q => q = w3.heap.size) wk wr) := hkp
        have HALL : Hid (∀ i, i < j → (buildF ns f (kAt ns n i) (kidRows ns n (ss.map bl) i)).isSome = true) := hall
        have BR : Hid (Below w.heap.size w wr) := hkp.down BF.out (fun q hq => by rw [hq]; omega)
        have HCR : Hid (wr.cell? ⟨w.heap.size, 0, none⟩ = some (.slice (some x) ns.length capT)) := hkp.cell HCF.out (by show ¬ (w.heap.size = w3.heap.size); omega)
        have XRR : Hid (Bx wr w1.heap.size nil none 0) := ⟨hkp.heap XRF.out.blk (by show ¬ (w1.heap.size = w3.heap.size); omega)⟩
        have RR : Hid (RowsIn 29 9 wr w6.heap.size w7.heap.size cu Lz) := RF.out.kept hkp (fun q hq => by have hq2 : q = w3.heap.size := hq; omega)
        have hSR : wk.heap.size ≤ wr.heap.size := hkp.size
        have cT := HCR.out
        clear hcp hbx hkp hall
        by_cases hlt : j < M
        · obtain ⟨gK, rfl, hg1, hg2, hgc⟩ := HK7.out j hlt
          have HGC : Hid (wr.cell? ⟨gK, j, none⟩ = some (.int .i64 ((kAt ns n j : Nat) : Int))) := KP.out.cell (KF.out.cell hgc (by show ¬ (gK = w3.heap.size ∨ gK = w6.heap.size); omega)) (by show ¬ (gK = w3.heap.size); omega)
          obtain ⟨oR, cR, hR, hRO⟩ := RR.out.cell (j := j) (by rw [HLL.out.1]; exact hlt)
          rw [HLL.out.2 j hlt] at hR hRO
          have HRC : Hid (wr.cell? ⟨w6.heap.size, j, none⟩ = some (.slice oR ((kidRows ns n (ss.map bl) j).map mk).length cR)) := hR
          have HRT : Hid (Texts.IsTx wr oR ((kidRows ns n (ss.map bl) j).map mk)) := Texts.own_texts hRO
          have HCALL : Hid (∀ v, Below wr.heap.size wr v → Calls Tryz.prog 62 #[.agg #[.slice (some x) ns.length capT], .int .i64 ((kAt ns n j : Nat) : Int), .slice oR ((kidRows ns n (ss.map bl) j).map mk).length cR] v (BuildG B f (buildF ns f (kAt ns n j) (kidRows ns n (ss.map bl) j)) v)) := fun v hv => HKID.out j hlt v oR cR (bel2 BR.out hv) (HRT.out.later hv)
          have HKA : Hid (kidAt (built ns f n (ss.map bl)) j = (buildF ns f (kAt ns n j) (kidRows ns n (ss.map bl) j)).getD nil) := by
            unfold Hid kidAt built
            simp only
            rw [List.getD_eq_getElem?_getD, List.getElem?_map, List.getElem?_range (by rw [HMK.out]; exact hlt)]
            rfl
          have HNO : Hid ((buildF ns f (kAt ns n j) (kidRows ns n (ss.map bl) j)).isSome = false → (buildF ns (f + 1) n (ss.map bl)).isSome = false) := fun h => by
            cases hc : (buildF ns (f + 1) n (ss.map bl)).isSome with
            | false => rfl
            | true => rw [(HBI.out.1 hc).2 j hlt] at h; cases h
          have i0 : (0 : Int) ≤ (j : Int) := Int.natCast_nonneg _
          have i1 : (j : Int) < (M : Int) := by omega
          generalize hBF : buildF ns f (kAt ns n j) (kidRows ns n (ss.map bl) j) = bf at *
          generalize hKL2 : ((kidRows ns n (ss.map bl) j).map mk).length = rl at *
          generalize hkn : kAt ns n j = kn at *
          clear hgc hR hRO hKL2
          have KLA : Hid (∀ W', Below wr.heap.size wr W' → (W'.cell? ⟨w.heap.size, 0, none⟩ = some (.slice (some x) ns.length capT) ∧ W'.cell? ⟨gK, j, none⟩ = some (.int .i64 ((kn : Nat) : Int)) ∧ W'.cell? ⟨w6.heap.size, j, none⟩ = some (.slice oR rl cR))) := fun W' hb => ⟨cell_later hb HCR.out, cell_later hb HGC.out, cell_later hb HRC.out⟩
          have BD : Hid (Below wr.heap.size wr wr.drew) := drewN_below wr 1
          have KR : Hid (wr.drew.cell? ⟨w.heap.size, 0, none⟩ = some (.slice (some x) ns.length capT) ∧ wr.drew.cell? ⟨gK, j, none⟩ = some (.int .i64 ((kn : Nat) : Int)) ∧ wr.drew.cell? ⟨w6.heap.size, j, none⟩ = some (.slice oR rl cR)) := KLA.out _ BD.out
          go_upto_region 42 with fail
          go_cut [21, 22] from 183 to 210 (fun p okv wx => ∃ (NB : Nat) (X : Arr) (o8 : Option Addr) (c8 : Nat), p = .pointer (some ⟨NB, 0, none⟩) ∧ okv = .bool bf.isSome ∧ wr.heap.size ≤ NB ∧ Bx wx NB X o8 c8 ∧ Below wr.heap.size wr wx ∧ (bf.isSome = true → bf = some X ∧ HoldsO B wx f (fun b => wr.heap.size ≤ b ∧ b < wx.heap.size) (X.cells o8 c8) X))
          case first =>
            refine wp_region_noPanic ?_
            refine wp_region_held_drew (S := fun W : World => W.cell? ⟨w.heap.size, 0, none⟩ = some (.slice (some x) ns.length capT) ∧ W.cell? ⟨gK, j, none⟩ = some (.int .i64 ((kn : Nat) : Int)) ∧ W.cell? ⟨w6.heap.size, j, none⟩ = some (.slice oR rl cR)) (by kernel_rfl) KR.out (fun h0 => ?_)
            generalize wr.drew = wd at *
            refine take_at (i := 0) (d := some 190) (v := ?v0l80) rfl rfl (by kernel_rfl) (by kernel_rfl) (by kernel_rfl) (fun _ _ _ h => h) (Or.inl ⟨by rfl, ?y0l80⟩) h0 ?r0l80
            case y0l80 => (intro w' hSw; (try dsimp only at hSw); go_simp; try with_reducible rfl)
            try simp only [Act.put, List.setIfInBounds_toArray, List.set_cons_zero, List.set_cons_succ]
            refine take_at (i := 1) (d := some 191) (v := ?v1l80) rfl rfl (by kernel_rfl) (by kernel_rfl) (by kernel_rfl) (fun _ _ _ h => h) (Or.inl ⟨by rfl, ?y1l80⟩) h0 ?r1l80
            case y1l80 => (intro w' hSw; (try dsimp only at hSw); go_simp; try with_reducible rfl)
            try simp only [Act.put, List.setIfInBounds_toArray, List.set_cons_zero, List.set_cons_succ]
            refine take_at (i := 2) (d := some 192) (v := ?v2l80) rfl rfl (by kernel_rfl) (by kernel_rfl) (by kernel_rfl) (fun _ _ _ h => h) (Or.inl ⟨by rfl, ?y2l80⟩) h0 ?r2l80
            case y2l80 => (intro w' hSw; (try dsimp only at hSw); go_simp; try with_reducible rfl)
            try simp only [Act.put, List.setIfInBounds_toArray, List.set_cons_zero, List.set_cons_succ]
            refine take_at (i := 3) (d := some 193) (v := ?v3l80) rfl rfl (by kernel_rfl) (by kernel_rfl) (by kernel_rfl) (fun _ _ _ h => h) (Or.inl ⟨by rfl, ?y3l80⟩) h0 ?r3l80
            case y3l80 => (intro w' hSw; (try dsimp only at hSw); go_simp; try with_reducible rfl)
            try simp only [Act.put, List.setIfInBounds_toArray, List.set_cons_zero, List.set_cons_succ]
            refine take_at (i := 4) (d := some 194) (v := ?v4l80) rfl rfl (by kernel_rfl) (by kernel_rfl) (by kernel_rfl) (fun _ _ _ h => h) (Or.inl ⟨by rfl, ?y4l80⟩) h0 ?r4l80
            case y4l80 => (intro w' hSw; (try dsimp only at hSw); go_simp; try with_reducible rfl)
            try simp only [Act.put, List.setIfInBounds_toArray, List.set_cons_zero, List.set_cons_succ]
            refine take_at (i := 5) (d := some 195) (v := ?v5l80) rfl rfl (by kernel_rfl) (by kernel_rfl) (by kernel_rfl) (fun _ _ _ h => h) (Or.inl ⟨by rfl, ?y5l80⟩) h0 ?r5l80
            case y5l80 => (intro w' hSw; (try dsimp only at hSw); go_simp; try with_reducible rfl)
            try simp only [Act.put, List.setIfInBounds_toArray, List.set_cons_zero, List.set_cons_succ]
            refine take_at (i := 6) (d := some 196) (v := ?v6l80) rfl rfl (by kernel_rfl) (by kernel_rfl) (by kernel_rfl) (fun _ _ _ h => h) (Or.inl ⟨by rfl, ?y6l80⟩) h0 ?r6l80
            case y6l80 => (intro w' hSw; (try dsimp only at hSw); go_simp; try with_reducible rfl)
            try simp only [Act.put, List.setIfInBounds_toArray, List.set_cons_zero, List.set_cons_succ]
            refine take_at (i := 7) (d := some 197) (v := ?v7l80) rfl rfl (by kernel_rfl) (by kernel_rfl) (by kernel_rfl) (fun _ _ _ h => h) (Or.inl ⟨by rfl, ?y7l80⟩) h0 ?r7l80
            case y7l80 => (intro w' hSw; (try dsimp only at hSw); go_simp; try with_reducible rfl)
            try simp only [Act.put, List.setIfInBounds_toArray, List.set_cons_zero, List.set_cons_succ]
            refine take_at (i := 8) (d := some 198) (v := ?v8l80) rfl rfl (by kernel_rfl) (by kernel_rfl) (by kernel_rfl) (fun _ _ _ h => h) (Or.inl ⟨by rfl, ?y8l80⟩) h0 ?r8l80
            case y8l80 => (intro w' hSw; (try dsimp only at hSw); go_simp; try with_reducible rfl)
            try simp only [Act.put, List.setIfInBounds_toArray, List.set_cons_zero, List.set_cons_succ]
            refine wpAnyH_ready (rs := [9, 13]) (by kernel_rfl) (by simp) ?_
            refine AllReadyH.cons rfl (fun K hK => ?_) (AllReadyH.cons rfl (fun K hK => ?_) AllReadyH.nil)
            · go_simp
              go_at_call 62
              refine (HCALL.out _ BD.out).mono ?_
              rintro e w8 ⟨X, o8, c8, rfl, b8, hX⟩
              have HX : Hid (bf.isSome = true → bf = some X ∧ HoldsO B w8 f (fun b => wd.heap.size ≤ b) (X.cells o8 c8) X) := hX
              unfold Arr.val
              have B8 : Hid (Below wr.heap.size wr w8) := bel2 BD.out b8
              have K8 : Hid (w8.cell? ⟨w.heap.size, 0, none⟩ = some (.slice (some x) ns.length capT) ∧ w8.cell? ⟨gK, j, none⟩ = some (.int .i64 ((kn : Nat) : Int)) ∧ w8.cell? ⟨w6.heap.size, j, none⟩ = some (.slice oR rl cR)) := KLA.out _ B8.out
              have hs8 := b8.size
              have hsd := BD.out.size
              clear b8 hX
              refine hK.out _ _ K8.out (fun h1 => ?_)
              clear hK K
              try simp only [Act.put, List.setIfInBounds_toArray, List.set_cons_zero, List.set_cons_succ]
              refine take_at (i := 10) (d := some 189) (v := ?v10l80a) rfl rfl (by kernel_rfl) (by kernel_rfl) (by kernel_rfl) (fun _ _ _ h => h) (Or.inl ⟨by rfl, ?y10l80a⟩) h1 ?r10l80a
              case y10l80a => (intro w' hSw; (try dsimp only at hSw); go_simp; try with_reducible rfl)
              try simp only [Act.put, List.setIfInBounds_toArray, List.set_cons_zero, List.set_cons_succ]
              refine take_at (i := 11) (d := some 200) (v := ?v11l80a) rfl rfl (by kernel_rfl) (by kernel_rfl) (by kernel_rfl) (fun _ _ _ h => h) (Or.inl ⟨by rfl, ?y11l80a⟩) h1 ?r11l80a
              case y11l80a => (intro w' hSw; (try dsimp only at hSw); go_simp; try with_reducible rfl)
              try simp only [Act.put, List.setIfInBounds_toArray, List.set_cons_zero, List.set_cons_succ]
              refine take_at (i := 12) (d := some 201) (v := ?v12l80a) rfl rfl (by kernel_rfl) (by kernel_rfl) (by kernel_rfl) (fun _ _ _ h => h) (Or.inl ⟨by rfl, ?y12l80a⟩) h1 ?r12l80a
              case y12l80a => (intro w' hSw; (try dsimp only at hSw); go_simp; try with_reducible rfl)
              try simp only [Act.put, List.setIfInBounds_toArray, List.set_cons_zero, List.set_cons_succ]
              refine wpAnyH_ready (rs := [13]) (by kernel_rfl) (by simp) ?_
              refine AllReadyH.cons rfl (fun K hK => ?_) AllReadyH.nil
              go_simp
              obtain ⟨w9, e9, x9, b9, z9⟩ := box7 w8 nil none 0
              have e9b : w8.alloc (.cells #[.int .i64 0, .int .i64 0, .int .i64 0, .string ⟨#[]⟩, .string ⟨#[]⟩, .string ⟨#[]⟩, .slice none 0 0] 27) = w9 := e9
              rw [e9b]
              have XA : Hid (Bx w9 w8.heap.size nil none 0) := x9
              have B9 : Hid (Below wr.heap.size wr w9) := bel2 B8.out b9
              have B89 : Hid (Below w8.heap.size w8 w9) := b9
              have K9 : Hid (w9.cell? ⟨w.heap.size, 0, none⟩ = some (.slice (some x) ns.length capT) ∧ w9.cell? ⟨gK, j, none⟩ = some (.int .i64 ((kn : Nat) : Int)) ∧ w9.cell? ⟨w6.heap.size, j, none⟩ = some (.slice oR rl cR)) := KLA.out _ B9.out
              clear e9 e9b x9 b9
              refine hK.out _ _ K9.out (fun h2 => ?_)
              clear hK K
              try simp only [Act.put, List.setIfInBounds_toArray, List.set_cons_zero, List.set_cons_succ]
              have s0 := XA.out.fz 0
              have s1 := XA.out.fz 1
              have s2 := XA.out.fz 2
              have s3 := XA.out.fz 3
              have s4 := XA.out.fz 4
              have s5 := XA.out.fz 5
              have s6 := XA.out.fz 6
              have t0 := XA.out.c0
              have t1 := XA.out.c1
              have t2 := XA.out.c2
              have t3 := XA.out.c3
              have t4 := XA.out.c4
              have t5 := XA.out.c5
              have t6 := XA.out.c6
              refine wpAnyH_ready (rs := [14]) (by kernel_rfl) (by simp) ?_
              refine AllReadyH.cons rfl (fun K hK => ?_) AllReadyH.nil
              go_simp
              obtain ⟨w10, e10, x10, h10, b10⟩ := set7 XA.out X o8 c8
              have e10b : ((((((w9.setCell ⟨w8.heap.size, 0, none⟩ (.int .i64 X.layout)).setCell ⟨w8.heap.size, 1, none⟩ (.int .i64 X.offset)).setCell ⟨w8.heap.size, 2, none⟩ (.int .i64 X.length)).setCell ⟨w8.heap.size, 3, none⟩ (.string X.valid)).setCell ⟨w8.heap.size, 4, none⟩ (.string X.ends)).setCell ⟨w8.heap.size, 5, none⟩ (.string X.data)).setCell ⟨w8.heap.size, 6, none⟩ (.slice o8 X.kids.length c8) = w10 := e10
              rw [e10b]
              have X10 : Hid (Bx w10 w8.heap.size X o8 c8) := x10
              have B10 : Hid (Below wr.heap.size wr w10) := B9.out.trans (b10 wr.heap.size (by omega))
              have HX10 : Hid (bf.isSome = true → bf = some X ∧ HoldsO B w10 f (fun b => wr.heap.size ≤ b ∧ b < w10.heap.size) (X.cells o8 c8) X) := fun h => by
                    obtain ⟨p1, p2⟩ := HX.out h
                    have hsz := (b10 0 (Nat.zero_le _)).size
                    refine ⟨p1, p2.lt.stays (fun b hb => (h10 b (by omega)).trans (B89.out.block b hb.2)) (fun b hb => ⟨by omega, by omega⟩)⟩
              have K10 : Hid (w10.cell? ⟨w.heap.size, 0, none⟩ = some (.slice (some x) ns.length capT) ∧ w10.cell? ⟨gK, j, none⟩ = some (.int .i64 ((kn : Nat) : Int)) ∧ w10.cell? ⟨w6.heap.size, j, none⟩ = some (.slice oR rl cR)) := KLA.out _ B10.out
              clear e10 e10b x10 h10 b10
              clear s0 s1 s2 s3 s4 s5 s6 t0 t1 t2 t3 t4 t5 t6
              refine hK.out _ _ K10.out (fun h3 => ?_)
              clear hK K
              try simp only [Act.put, List.setIfInBounds_toArray, List.set_cons_zero, List.set_cons_succ]
              refine take_at (i := 15) (d := some 22) (v := ?v15l80b) rfl rfl (by kernel_rfl) (by kernel_rfl) (by kernel_rfl) (fun _ _ _ h => h) (Or.inl ⟨by rfl, ?y15l80b⟩) h3 ?r15l80b
              case y15l80b => (intro w' hSw; (try dsimp only at hSw); go_simp; try with_reducible rfl)
              try simp only [Act.put, List.setIfInBounds_toArray, List.set_cons_zero, List.set_cons_succ]
              refine wpAnyH_done (by kernel_rfl) ?_ _
              refine NoPanic.normal ?_
              go_wp2_with fail
              go_meet
              case rel => exact ⟨w8.heap.size, X, o8, c8, rfl, rfl, by omega, X10.out, B10.out, HX10.out⟩
            · go_simp
              obtain ⟨wa, ea, xa, ba, za⟩ := box7 wd nil none 0
              have eab : wd.alloc (.cells #[.int .i64 0, .int .i64 0, .int .i64 0, .string ⟨#[]⟩, .string ⟨#[]⟩, .string ⟨#[]⟩, .slice none 0 0] 27) = wa := ea
              rw [eab]
              have XA0 : Hid (Bx wa wd.heap.size nil none 0) := xa
              have BA : Hid (Below wr.heap.size wr wa) := bel2 BD.out ba
              have KA : Hid (wa.cell? ⟨w.heap.size, 0, none⟩ = some (.slice (some x) ns.length capT) ∧ wa.cell? ⟨gK, j, none⟩ = some (.int .i64 ((kn : Nat) : Int)) ∧ wa.cell? ⟨w6.heap.size, j, none⟩ = some (.slice oR rl cR)) := KLA.out _ BA.out
              have hsd := BD.out.size
              clear ea eab xa ba
              refine hK.out _ _ KA.out (fun h1 => ?_)
              clear hK K
              try simp only [Act.put, List.setIfInBounds_toArray, List.set_cons_zero, List.set_cons_succ]
              refine wpAnyH_ready (rs := [9]) (by kernel_rfl) (by simp) ?_
              refine AllReadyH.cons rfl (fun K hK => ?_) AllReadyH.nil
              go_simp
              go_at_call 62
              refine (HCALL.out _ BA.out).mono ?_
              rintro e w8 ⟨X, o8, c8, rfl, b8, hX⟩
              have HX : Hid (bf.isSome = true → bf = some X ∧ HoldsO B w8 f (fun b => wa.heap.size ≤ b) (X.cells o8 c8) X) := hX
              unfold Arr.val
              have XA : Hid (Bx w8 wd.heap.size nil none 0) := XA0.out.later b8
              have B8 : Hid (Below wr.heap.size wr w8) := bel2 BA.out b8
              have K8 : Hid (w8.cell? ⟨w.heap.size, 0, none⟩ = some (.slice (some x) ns.length capT) ∧ w8.cell? ⟨gK, j, none⟩ = some (.int .i64 ((kn : Nat) : Int)) ∧ w8.cell? ⟨w6.heap.size, j, none⟩ = some (.slice oR rl cR)) := KLA.out _ B8.out
              have hs8 := b8.size
              clear b8 hX
              refine hK.out _ _ K8.out (fun h2 => ?_)
              clear hK K
              try simp only [Act.put, List.setIfInBounds_toArray, List.set_cons_zero, List.set_cons_succ]
              refine take_at (i := 10) (d := some 189) (v := ?v10l80c) rfl rfl (by kernel_rfl) (by kernel_rfl) (by kernel_rfl) (fun _ _ _ h => h) (Or.inl ⟨by rfl, ?y10l80c⟩) h2 ?r10l80c
              case y10l80c => (intro w' hSw; (try dsimp only at hSw); go_simp; try with_reducible rfl)
              try simp only [Act.put, List.setIfInBounds_toArray, List.set_cons_zero, List.set_cons_succ]
              refine take_at (i := 11) (d := some 200) (v := ?v11l80c) rfl rfl (by kernel_rfl) (by kernel_rfl) (by kernel_rfl) (fun _ _ _ h => h) (Or.inl ⟨by rfl, ?y11l80c⟩) h2 ?r11l80c
              case y11l80c => (intro w' hSw; (try dsimp only at hSw); go_simp; try with_reducible rfl)
              try simp only [Act.put, List.setIfInBounds_toArray, List.set_cons_zero, List.set_cons_succ]
              refine take_at (i := 12) (d := some 201) (v := ?v12l80c) rfl rfl (by kernel_rfl) (by kernel_rfl) (by kernel_rfl) (fun _ _ _ h => h) (Or.inl ⟨by rfl, ?y12l80c⟩) h2 ?r12l80c
              case y12l80c => (intro w' hSw; (try dsimp only at hSw); go_simp; try with_reducible rfl)
              try simp only [Act.put, List.setIfInBounds_toArray, List.set_cons_zero, List.set_cons_succ]
              have s0 := XA.out.fz 0
              have s1 := XA.out.fz 1
              have s2 := XA.out.fz 2
              have s3 := XA.out.fz 3
              have s4 := XA.out.fz 4
              have s5 := XA.out.fz 5
              have s6 := XA.out.fz 6
              have t0 := XA.out.c0
              have t1 := XA.out.c1
              have t2 := XA.out.c2
              have t3 := XA.out.c3
              have t4 := XA.out.c4
              have t5 := XA.out.c5
              have t6 := XA.out.c6
              refine wpAnyH_ready (rs := [14]) (by kernel_rfl) (by simp) ?_
              refine AllReadyH.cons rfl (fun K hK => ?_) AllReadyH.nil
              go_simp
              obtain ⟨w10, e10, x10, h10, b10⟩ := set7 XA.out X o8 c8
              have e10b : ((((((w8.setCell ⟨wd.heap.size, 0, none⟩ (.int .i64 X.layout)).setCell ⟨wd.heap.size, 1, none⟩ (.int .i64 X.offset)).setCell ⟨wd.heap.size, 2, none⟩ (.int .i64 X.length)).setCell ⟨wd.heap.size, 3, none⟩ (.string X.valid)).setCell ⟨wd.heap.size, 4, none⟩ (.string X.ends)).setCell ⟨wd.heap.size, 5, none⟩ (.string X.data)).setCell ⟨wd.heap.size, 6, none⟩ (.slice o8 X.kids.length c8) = w10 := e10
              rw [e10b]
              have X10 : Hid (Bx w10 wd.heap.size X o8 c8) := x10
              have B10 : Hid (Below wr.heap.size wr w10) := B8.out.trans (b10 wr.heap.size (by omega))
              have HX10 : Hid (bf.isSome = true → bf = some X ∧ HoldsO B w10 f (fun b => wr.heap.size ≤ b ∧ b < w10.heap.size) (X.cells o8 c8) X) := fun h => by
                    obtain ⟨p1, p2⟩ := HX.out h
                    have hsz := (b10 0 (Nat.zero_le _)).size
                    refine ⟨p1, p2.lt.stays (fun b hb => h10 b (by omega)) (fun b hb => ⟨by omega, by omega⟩)⟩
              have K10 : Hid (w10.cell? ⟨w.heap.size, 0, none⟩ = some (.slice (some x) ns.length capT) ∧ w10.cell? ⟨gK, j, none⟩ = some (.int .i64 ((kn : Nat) : Int)) ∧ w10.cell? ⟨w6.heap.size, j, none⟩ = some (.slice oR rl cR)) := KLA.out _ B10.out
              clear e10 e10b x10 h10 b10
              clear s0 s1 s2 s3 s4 s5 s6 t0 t1 t2 t3 t4 t5 t6
              refine hK.out _ _ K10.out (fun h3 => ?_)
              clear hK K
              try simp only [Act.put, List.setIfInBounds_toArray, List.set_cons_zero, List.set_cons_succ]
              refine take_at (i := 15) (d := some 22) (v := ?v15l80d) rfl rfl (by kernel_rfl) (by kernel_rfl) (by kernel_rfl) (fun _ _ _ h => h) (Or.inl ⟨by rfl, ?y15l80d⟩) h3 ?r15l80d
              case y15l80d => (intro w' hSw; (try dsimp only at hSw); go_simp; try with_reducible rfl)
              try simp only [Act.put, List.setIfInBounds_toArray, List.set_cons_zero, List.set_cons_succ]
              refine wpAnyH_done (by kernel_rfl) ?_ _
              refine NoPanic.normal ?_
              go_wp2_with fail
              go_meet
              case rel => exact ⟨wd.heap.size, X, o8, c8, rfl, rfl, by omega, X10.out, B10.out, HX10.out⟩

          case rest =>
          obtain ⟨NB, X, o8, c8, rfl, rfl, hNB, xN, bN, hXN⟩ := hcut
          have XN : Hid (Bx wc NB X o8 c8) := xN
          have B10 : Hid (Below wr.heap.size wr wc) := bN
          have HX10 : Hid (bf.isSome = true → bf = some X ∧ HoldsO B wc f (fun b => wr.heap.size ≤ b ∧ b < wc.heap.size) (X.cells o8 c8) X) := hXN
          have X3 : Hid (Bx wc w3.heap.size ⟨0, 0, ((ss.length : Nat) : Int), mk vd, ⟨#[]⟩, ⟨#[]⟩, List.replicate j nil⟩ ov cv) := XB.out.later B10.out
          have XR3b : Hid (Bx wc w1.heap.size nil none 0) := XRR.out.later B10.out
          have CP10 : Hid (Copied B f (built ns f n (ss.map bl)) wk.heap.size j (.slice ov j cv) wc css) := CP.out.stays (fun b _ hb => B10.out.block b hb) B10.out.size
          have KP10 : Hid (Kept (fun q => q = w3.heap.size) wk wc) := KP.out.below B10.out
          have hN3 : w3.heap.size < NB := by have := XB.out.lt; omega
          have hS10 : wr.heap.size ≤ wc.heap.size := bN.size
          have hwk3 : w3.heap.size < wk.heap.size := by omega
          clear KLA HGC HRC HRT HCALL xN bN hXN KR BD
          cases hS : bf.isSome
          · have d0 := X3.out.c0
            have d1 := X3.out.c1
            have d2 := X3.out.c2
            have d3 := X3.out.c3
            have d4 := X3.out.c4
            have d5 := X3.out.c5
            have d6 := X3.out.c6
            have u0 := XR3b.out.c0
            have u1 := XR3b.out.c1
            have u2 := XR3b.out.c2
            have u3 := XR3b.out.c3
            have u4 := XR3b.out.c4
            have u5 := XR3b.out.c5
            have u6 := XR3b.out.c6
            have v0 := XR3b.out.fz 0
            have v1 := XR3b.out.fz 1
            have v2 := XR3b.out.fz 2
            have v3 := XR3b.out.fz 3
            have v4 := XR3b.out.fz 4
            have v5 := XR3b.out.fz 5
            have v6 := XR3b.out.fz 6
            rw [List.length_replicate] at d6
            unfold nil at u0 u1 u2 u3 u4 u5 u6
            have HN : Hid ((buildF ns (f + 1) n (ss.map bl)).isSome = false) := HNO.out hS
            obtain ⟨w11, e11, x11, h11, b11⟩ := set7 XR3b.out ⟨0, 0, ((ss.length : Nat) : Int), mk vd, ⟨#[]⟩, ⟨#[]⟩, List.replicate j nil⟩ ov cv
            rw [List.length_replicate] at e11
            have e11b : (((((((wc).setCell ⟨w1.heap.size, 0, none⟩ (.int .i64 0)).setCell ⟨w1.heap.size, 1, none⟩ (.int .i64 0)).setCell ⟨w1.heap.size, 2, none⟩ (.int .i64 ((ss.length : Nat) : Int))).setCell ⟨w1.heap.size, 3, none⟩ (.string (mk vd))).setCell ⟨w1.heap.size, 4, none⟩ (.string ⟨#[]⟩)).setCell ⟨w1.heap.size, 5, none⟩ (.string ⟨#[]⟩)).setCell ⟨w1.heap.size, 6, none⟩ (.slice ov j cv) = w11 := e11
            have HB11 : Hid (Below w.heap.size w w11) := (bel2 BR.out B10.out).trans (b11 w.heap.size (by omega))
            have q0 := x11.c0
            have q1 := x11.c1
            have q2 := x11.c2
            have q3 := x11.c3
            have q4 := x11.c4
            have q5 := x11.c5
            have q6 := x11.c6
            rw [List.length_replicate] at q6
            clear hS e11 x11 h11 b11
            go_wp2_with fail
            try rw [e11b]
            exact bodyPost_ret (v := .tuple #[.agg #[.int .i64 0, .int .i64 0, .int .i64 ((ss.length : Nat) : Int), .string (mk vd), .string ⟨#[]⟩, .string ⟨#[]⟩, .slice ov j cv], .bool false]) (by simp [results, Tryz.results62, go_sem, q0, q1, q2, q3, q4, q5, q6]) rfl (by have := none_done (B := B) ⟨0, 0, ((ss.length : Nat) : Int), mk vd, ⟨#[]⟩, ⟨#[]⟩, List.replicate j nil⟩ ov cv HN.out HB11.out; unfold Arr.val at this; rw [List.length_replicate] at this; exact this)
          · obtain ⟨hbf, hho⟩ := HX10.out hS
            have HHO : Hid (HoldsO B wc f (fun b => wr.heap.size ≤ b ∧ b < wc.heap.size) (X.cells o8 c8) (kidAt (built ns f n (ss.map bl)) j)) := by
              rw [HKA.out, hbf]
              exact hho
            have HAL2 : Hid (∀ i, i < j + 1 → (buildF ns f (kAt ns n i) (kidRows ns n (ss.map bl) i)).isSome = true) := fun i hi => by
              by_cases hij : i < j
              · exact HALL.out i hij
              · obtain rfl : i = j := by omega
                rw [hkn, hBF]
                exact hS
            have d6 := X3.out.c6
            rw [List.length_replicate] at d6
            have y0 := XN.out.c0
            have y1 := XN.out.c1
            have y2 := XN.out.c2
            have y3 := XN.out.c3
            have y4 := XN.out.c4
            have y5 := XN.out.c5
            have y6 := XN.out.c6
            have hown4 : wc.ownsRow wk.heap.size 27 7 (.slice ov j cv) j css.flatten := CP10.out.own
            have hsz : wk.heap.size ≤ wc.heap.size := by omega
            clear hS hbf hho
            go_wp2_with (at_builtin; refine wpList_append_own_at _ rfl (.tmp 206) (.tmp 208) 25 rfl wk.heap.size 27 i27 _ 7 96 Tryz.underlying25 hi27 hz270 hz271 hz272 rfl (by decide) _ j _ rfl (hown4.alloc _) ⟨wc.heap.size, 0, none⟩ 1 1 (X.cells o8 c8) rfl rfl ?c1 ?c2 ?c3 ?c4 ?c5 ?_)
            case c1 =>
              intro i u hi
              match i, hi with
              | 0, hi => simp [Arr.cells] at hi; subst hi; simp [Addr.add]
              | 1, hi => simp [Arr.cells] at hi; subst hi; simp [Addr.add]
              | 2, hi => simp [Arr.cells] at hi; subst hi; simp [Addr.add]
              | 3, hi => simp [Arr.cells] at hi; subst hi; simp [Addr.add]
              | 4, hi => simp [Arr.cells] at hi; subst hi; simp [Addr.add]
              | 5, hi => simp [Arr.cells] at hi; subst hi; simp [Addr.add]
              | 6, hi => simp [Arr.cells] at hi; subst hi; simp [Addr.add]
            case c2 => intro u hu; simp [Arr.cells] at hu; rcases hu with rfl | rfl | rfl | rfl | rfl | rfl | rfl <;> rfl
            case c3 => unfold maxLen; omega
            case c4 => omega
            case c5 => simp; omega
            intro v' w5x hown' hgrow _ hblk
            have hgr := grown_alloc hgrow
            have HN : Hid (Copied B f (built ns f n (ss.map bl)) wk.heap.size (j + 1) v' w5x (css ++ [X.cells o8 c8])) := CP.out.step hSR B10.out rfl HHO.out hown' hgr (n5 := wc.heap.size + 1) (Nat.le_succ _) (by simpa using hblk)
            have K5 : Hid (Kept (fun q => q = w3.heap.size) wk w5x) := KP10.out.grown hgr (fun q hq => .inr (hown4.lt q hq).1)
            have hblk3 : w5x.heap[w3.heap.size]? = wc.heap[w3.heap.size]? := hgr.block _ X3.out.lt (fun c => by have := (hown4.lt w3.heap.size c.symm).1; omega)
            have X5x : Hid (Bx w5x w3.heap.size ⟨0, 0, ((ss.length : Nat) : Int), mk vd, ⟨#[]⟩, ⟨#[]⟩, List.replicate j nil⟩ ov cv) := ⟨hblk3.trans X3.out.blk⟩
            have p6 := X5x.out.c6
            rw [List.length_replicate] at p6
            have g6 := X5x.out.fz 6
            obtain ⟨oV, cV, rfl⟩ := ownsRow_len hown'
            obtain ⟨w6x, e6, x6, k6, h6⟩ := X5x.out.set6 (List.replicate (j + 1) nil) oV cV
            rw [List.length_replicate] at e6
            have X6x : Hid (Bx w6x w3.heap.size ⟨0, 0, ((ss.length : Nat) : Int), mk vd, ⟨#[]⟩, ⟨#[]⟩, List.replicate (j + 1) nil⟩ oV cV) := x6
            have K6x : Hid (Kept (fun q => q = w3.heap.size) wk w6x) := k6 _ _ rfl K5.out
            have HN6 : Hid (Copied B f (built ns f n (ss.map bl)) wk.heap.size (j + 1) (.slice oV (j + 1) cV) w6x (css ++ [X.cells o8 c8])) := HN.out.stays (fun b hb _ => h6 b (by omega)) (k6 (fun q => q = w3.heap.size) w5x rfl (Kept.refl _ _)).size
            clear hown' hgrow hblk hgr hown4 hblk3 x6 k6 h6 y0 y1 y2 y3 y4 y5 y6 d6 cT
            go_wp2
            go_roundw
            case rel => exact ⟨j + 1, _, oV, cV, by omega, by go_num, HAL2.out, HN6.out, X6x.out, K6x.out⟩
            case measure => simp [intOf]; omega
        · obtain rfl : j = M := by omega
          have HSOME : Hid ((buildF ns (f + 1) n (ss.map bl)).isSome = true) := HBI.out.2 ⟨by rw [List.length_map]; exact h64, HALL.out⟩
          have HAV : Hid ((built ns f n (ss.map bl)).val ov cv = .agg #[.int .i64 0, .int .i64 0, .int .i64 ((ss.length : Nat) : Int), .string (mk vd), .string ⟨#[]⟩, .string ⟨#[]⟩, .slice ov j cv]) := by
            unfold Hid Arr.val
            rw [HKLN.out]
            unfold built
            simp only
            rw [List.length_map, hvd, HA.out.1, HA.out.2]
            rfl
          have HOKB : Hid ((built ns f n (ss.map bl)).ok B) := by
            obtain ⟨a, ha⟩ := Option.isSome_iff_exists.1 HSOME.out
            have := ok_built hB ha
            rw [(build_some ha).1] at this
            exact this
          have CPM : Hid (Copied B f (built ns f n (ss.map bl)) wk.heap.size (built ns f n (ss.map bl)).kids.length (.slice ov (built ns f n (ss.map bl)).kids.length cv) wr css) := by rw [HKLN.out]; exact CP.out
          have XF2 : Hid (Bx wr w3.heap.size ⟨0, 0, ((ss.length : Nat) : Int), mk vd, ⟨#[]⟩, ⟨#[]⟩, List.replicate j nil⟩ ov cv) := XB.out
          have XRF2 : Hid (Bx wr w1.heap.size nil none 0) := XRR.out
          have BF2 : Hid (Below w.heap.size w wr) := BR.out
          have hW1 : w1.heap.size < wk.heap.size := by omega
          clear cT
          go_wp2_with fail
          have XD : Hid (Bx wr.drew w3.heap.size ⟨0, 0, ((ss.length : Nat) : Int), mk vd, ⟨#[]⟩, ⟨#[]⟩, List.replicate j nil⟩ ov cv) := XF2.out.later (drewN_below _ 1)
          have XRD : Hid (Bx wr.drew w1.heap.size nil none 0) := XRF2.out.later (drewN_below _ 1)
          have KR : Hid (wr.drew.cell? ⟨w3.heap.size, 0, none⟩ = some (.int .i64 0) ∧ wr.drew.cell? ⟨w3.heap.size, 1, none⟩ = some (.int .i64 0) ∧ wr.drew.cell? ⟨w3.heap.size, 2, none⟩ = some (.int .i64 ((ss.length : Nat) : Int)) ∧ wr.drew.cell? ⟨w3.heap.size, 3, none⟩ = some (.string (mk vd)) ∧ wr.drew.cell? ⟨w3.heap.size, 4, none⟩ = some (.string ⟨#[]⟩) ∧ wr.drew.cell? ⟨w3.heap.size, 5, none⟩ = some (.string ⟨#[]⟩) ∧ wr.drew.cell? ⟨w3.heap.size, 6, none⟩ = some (.slice ov j cv)) := ⟨XD.out.c0, XD.out.c1, XD.out.c2, XD.out.c3, XD.out.c4, XD.out.c5, XD.out.c6r⟩
          have HBD : Hid (Below w.heap.size w wr.drew) := bel2 BF2.out (drewN_below _ 1)
          have HWD : Hid (∀ b : Nat, wr.drew.heap[b]? = wr.heap[b]?) := fun _ => rfl
          refine wp_region_noPanic ?_
          refine wp_region_held_drew (S := fun W : World => W.cell? ⟨w3.heap.size, 0, none⟩ = some (.int .i64 0) ∧ W.cell? ⟨w3.heap.size, 1, none⟩ = some (.int .i64 0) ∧ W.cell? ⟨w3.heap.size, 2, none⟩ = some (.int .i64 ((ss.length : Nat) : Int)) ∧ W.cell? ⟨w3.heap.size, 3, none⟩ = some (.string (mk vd)) ∧ W.cell? ⟨w3.heap.size, 4, none⟩ = some (.string ⟨#[]⟩) ∧ W.cell? ⟨w3.heap.size, 5, none⟩ = some (.string ⟨#[]⟩) ∧ W.cell? ⟨w3.heap.size, 6, none⟩ = some (.slice ov j cv)) (by kernel_rfl) KR.out (fun h0 => ?_)
          generalize wr.drew = wd at *
          refine take_at (i := 0) (d := some 211) (v := ?v0t81) rfl rfl (by kernel_rfl) (by kernel_rfl) (by kernel_rfl) (fun _ _ _ h => h) (Or.inl ⟨by rfl, ?y0t81⟩) h0 ?r0t81
          case y0t81 => (intro w' hSw; (try dsimp only at hSw); go_simp; try with_reducible rfl)
          try simp only [Act.put, List.setIfInBounds_toArray, List.set_cons_zero, List.set_cons_succ]
          refine take_at (i := 1) (d := some 212) (v := ?v1t81) rfl rfl (by kernel_rfl) (by kernel_rfl) (by kernel_rfl) (fun _ _ _ h => h) (Or.inl ⟨by rfl, ?y1t81⟩) h0 ?r1t81
          case y1t81 => (intro w' hSw; (try dsimp only at hSw); go_simp; try with_reducible rfl)
          try simp only [Act.put, List.setIfInBounds_toArray, List.set_cons_zero, List.set_cons_succ]
          refine take_at (i := 2) (d := some 213) (v := ?v2t81) rfl rfl (by kernel_rfl) (by kernel_rfl) (by kernel_rfl) (fun _ _ _ h => h) (Or.inl ⟨by rfl, ?y2t81⟩) h0 ?r2t81
          case y2t81 => (intro w' hSw; (try dsimp only at hSw); go_simp; try with_reducible rfl)
          try simp only [Act.put, List.setIfInBounds_toArray, List.set_cons_zero, List.set_cons_succ]
          refine take_at (i := 3) (d := some 214) (v := ?v3t81) rfl rfl (by kernel_rfl) (by kernel_rfl) (by kernel_rfl) (fun _ _ _ h => h) (Or.inl ⟨by rfl, ?y3t81⟩) h0 ?r3t81
          case y3t81 => (intro w' hSw; (try dsimp only at hSw); go_simp; try with_reducible rfl)
          try simp only [Act.put, List.setIfInBounds_toArray, List.set_cons_zero, List.set_cons_succ]
          refine take_at (i := 4) (d := some 215) (v := ?v4t81) rfl rfl (by kernel_rfl) (by kernel_rfl) (by kernel_rfl) (fun _ _ _ h => h) (Or.inl ⟨by rfl, ?y4t81⟩) h0 ?r4t81
          case y4t81 => (intro w' hSw; (try dsimp only at hSw); go_simp; try with_reducible rfl)
          try simp only [Act.put, List.setIfInBounds_toArray, List.set_cons_zero, List.set_cons_succ]
          refine take_at (i := 5) (d := some 216) (v := ?v5t81) rfl rfl (by kernel_rfl) (by kernel_rfl) (by kernel_rfl) (fun _ _ _ h => h) (Or.inl ⟨by rfl, ?y5t81⟩) h0 ?r5t81
          case y5t81 => (intro w' hSw; (try dsimp only at hSw); go_simp; try with_reducible rfl)
          try simp only [Act.put, List.setIfInBounds_toArray, List.set_cons_zero, List.set_cons_succ]
          refine take_at (i := 6) (d := some 217) (v := ?v6t81) rfl rfl (by kernel_rfl) (by kernel_rfl) (by kernel_rfl) (fun _ _ _ h => h) (Or.inl ⟨by rfl, ?y6t81⟩) h0 ?r6t81
          case y6t81 => (intro w' hSw; (try dsimp only at hSw); go_simp; try with_reducible rfl)
          try simp only [Act.put, List.setIfInBounds_toArray, List.set_cons_zero, List.set_cons_succ]
          refine take_at (i := 7) (d := some 218) (v := ?v7t81) rfl rfl (by kernel_rfl) (by kernel_rfl) (by kernel_rfl) (fun _ _ _ h => h) (Or.inl ⟨by rfl, ?y7t81⟩) h0 ?r7t81
          case y7t81 => (intro w' hSw; (try dsimp only at hSw); go_simp; try with_reducible rfl)
          try simp only [Act.put, List.setIfInBounds_toArray, List.set_cons_zero, List.set_cons_succ]
          refine take_at (i := 8) (d := some 219) (v := ?v8t81) rfl rfl (by kernel_rfl) (by kernel_rfl) (by kernel_rfl) (fun _ _ _ h => h) (Or.inl ⟨by rfl, ?y8t81⟩) h0 ?r8t81
          case y8t81 => (intro w' hSw; (try dsimp only at hSw); go_simp; try with_reducible rfl)
          try simp only [Act.put, List.setIfInBounds_toArray, List.set_cons_zero, List.set_cons_succ]
          refine take_at (i := 9) (d := some 220) (v := ?v9t81) rfl rfl (by kernel_rfl) (by kernel_rfl) (by kernel_rfl) (fun _ _ _ h => h) (Or.inl ⟨by rfl, ?y9t81⟩) h0 ?r9t81
          case y9t81 => (intro w' hSw; (try dsimp only at hSw); go_simp; try with_reducible rfl)
          try simp only [Act.put, List.setIfInBounds_toArray, List.set_cons_zero, List.set_cons_succ]
          refine take_at (i := 10) (d := some 221) (v := ?v10t81) rfl rfl (by kernel_rfl) (by kernel_rfl) (by kernel_rfl) (fun _ _ _ h => h) (Or.inl ⟨by rfl, ?y10t81⟩) h0 ?r10t81
          case y10t81 => (intro w' hSw; (try dsimp only at hSw); go_simp; try with_reducible rfl)
          try simp only [Act.put, List.setIfInBounds_toArray, List.set_cons_zero, List.set_cons_succ]
          refine wpAnyH_ready (rs := [11]) (by kernel_rfl) (by simp) ?_
          refine AllReadyH.cons rfl (fun K hK => ?_) AllReadyH.nil
          have g0 := XRD.out.fz 0
          have r0 := XRD.out.c0
          have g1 := XRD.out.fz 1
          have r1 := XRD.out.c1
          have g2 := XRD.out.fz 2
          have r2 := XRD.out.c2
          have g3 := XRD.out.fz 3
          have r3 := XRD.out.c3
          have g4 := XRD.out.fz 4
          have r4 := XRD.out.c4
          have g5 := XRD.out.fz 5
          have r5 := XRD.out.c5
          have g6 := XRD.out.fz 6
          have r6 := XRD.out.c6
          go_simp
          obtain ⟨w9, e9, x9, h9, b9⟩ := set7 XRD.out ⟨0, 0, ((ss.length : Nat) : Int), mk vd, ⟨#[]⟩, ⟨#[]⟩, List.replicate j nil⟩ ov cv
          rw [List.length_replicate] at e9
          have e9b : (((((((wd).setCell ⟨w1.heap.size, 0, none⟩ (.int .i64 0)).setCell ⟨w1.heap.size, 1, none⟩ (.int .i64 0)).setCell ⟨w1.heap.size, 2, none⟩ (.int .i64 ((ss.length : Nat) : Int))).setCell ⟨w1.heap.size, 3, none⟩ (.string (mk vd))).setCell ⟨w1.heap.size, 4, none⟩ (.string ⟨#[]⟩)).setCell ⟨w1.heap.size, 5, none⟩ (.string ⟨#[]⟩)).setCell ⟨w1.heap.size, 6, none⟩ (.slice ov j cv) = w9 := e9
          rw [e9b]
          have X9 : Hid (Bx w9 w3.heap.size ⟨0, 0, ((ss.length : Nat) : Int), mk vd, ⟨#[]⟩, ⟨#[]⟩, List.replicate j nil⟩ ov cv) := ⟨(h9 _ (by omega)).trans XD.out.blk⟩
          have XR9 : Hid (Bx w9 w1.heap.size ⟨0, 0, ((ss.length : Nat) : Int), mk vd, ⟨#[]⟩, ⟨#[]⟩, List.replicate j nil⟩ ov cv) := x9
          have KE : Hid (w9.cell? ⟨w3.heap.size, 0, none⟩ = some (.int .i64 0) ∧ w9.cell? ⟨w3.heap.size, 1, none⟩ = some (.int .i64 0) ∧ w9.cell? ⟨w3.heap.size, 2, none⟩ = some (.int .i64 ((ss.length : Nat) : Int)) ∧ w9.cell? ⟨w3.heap.size, 3, none⟩ = some (.string (mk vd)) ∧ w9.cell? ⟨w3.heap.size, 4, none⟩ = some (.string ⟨#[]⟩) ∧ w9.cell? ⟨w3.heap.size, 5, none⟩ = some (.string ⟨#[]⟩) ∧ w9.cell? ⟨w3.heap.size, 6, none⟩ = some (.slice ov j cv)) := ⟨X9.out.c0, X9.out.c1, X9.out.c2, X9.out.c3, X9.out.c4, X9.out.c5, X9.out.c6r⟩
          have HB9 : Hid (Below w.heap.size w w9) := HBD.out.trans (b9 w.heap.size (by omega))
          have HH9 : Hid (∀ b, b ≠ w1.heap.size → w9.heap[b]? = wr.heap[b]?) := fun b hb => (h9 b hb).trans (HWD.out b)
          clear e9 e9b x9 h9 b9 KR h0
          refine hK.out _ _ KE.out (fun h1 => ?_)
          clear hK K
          try simp only [Act.put, List.setIfInBounds_toArray, List.set_cons_zero, List.set_cons_succ]
          refine take_at (i := 12) (d := some 7) (v := ?v12t81) rfl rfl (by kernel_rfl) (by kernel_rfl) (by kernel_rfl) (fun _ _ _ h => h) (Or.inl ⟨by rfl, ?y12t81⟩) h1 ?r12t81
          case y12t81 => (intro w' hSw; (try dsimp only at hSw); go_simp; try with_reducible rfl)
          try simp only [Act.put, List.setIfInBounds_toArray, List.set_cons_zero, List.set_cons_succ]
          refine wpAnyH_done (by kernel_rfl) ?_ _
          refine NoPanic.normal ?_
          have q0 := XR9.out.c0
          have q1 := XR9.out.c1
          have q2 := XR9.out.c2
          have q3 := XR9.out.c3
          have q4 := XR9.out.c4
          have q5 := XR9.out.c5
          have q6 := XR9.out.c6r
          have HFIN : Hid (BuildQ B (f + 1) ns n (ss.map bl) w (.returned (.tuple #[.agg #[.int .i64 0, .int .i64 0, .int .i64 ((ss.length : Nat) : Int), .string (mk vd), .string ⟨#[]⟩, .string ⟨#[]⟩, .slice ov j cv], .bool true])) w9) := kids_done HSOME.out HB9.out HAV.out ((Copied.done CPM.out HOKB.out (fun b hb _ => HH9.out b (by omega))).stays (fun _ _ => rfl) (fun b hb => by have := BF.out.size; omega))
          go_wp2
          exact bodyPost_ret (v := .tuple #[.agg #[.int .i64 0, .int .i64 0, .int .i64 ((ss.length : Nat) : Int), .string (mk vd), .string ⟨#[]⟩, .string ⟨#[]⟩, .slice ov j cv], .bool true]) (by simp [results, Tryz.results62, go_sem, q0, q1, q2, q3, q4, q5, q6]) rfl HFIN.out
end Go.Proofs.YtcpfhfdgfcilaaaGreatDoor.Arr
set_option linter.unusedVariables false
set_option linter.unusedSimpArgs false
namespace Go.Proofs.YtcpfhfdgfcilaaaGreatDoor.Arr
open Go.ChangeShapes Go.WideShapes Go.ChangeAt Go.RowKit
open Tree Val

set_option maxRecDepth 20000 in
set_option maxHeartbeats 3200000 in
theorem buildLong (B f g : Nat) (hB : 4096 ≤ B) (ns : List Nd) (oT : Option Addr) (capT n : Nat) (ss : List ByteArray) (o : Option Addr) (cap : Nat) (w : World) (hn : n < ns.length) (hm : may ns = true) (hF : AllFit ns (g + 1) n (ss.map bl)) (h64 : 64 < ss.length) (hx : Texts.IsTx w o ss) (ht : IsT w oT ns) (hl4 : ss.length ≤ 8796093021952) :
    Calls Tryz.prog 62 #[.agg #[.slice oT ns.length capT], .int .i64 (n : Int), .slice o ss.length cap] w (BuildQ B (f + 1) ns n (ss.map bl) w) := by
  obtain ⟨w1, e1, s1, c1, b1⟩ := boxed w (.slice oT ns.length capT) 24
  obtain ⟨w2, e2', x2, b2, z2⟩ := box7 w1 nil none 0
  have e2 : w1.alloc (.cells #[.int .i64 0, .int .i64 0, .int .i64 0, .string ⟨#[]⟩, .string ⟨#[]⟩, .string ⟨#[]⟩, .slice none 0 0] 27) = w2 := e2'
  clear e2'
  have hS1 : w.heap.size < w1.heap.size := s1
  have hS2 : w1.heap.size < w2.heap.size := z2
  have B2 : Hid (Below w.heap.size w w2) := bel2 b1 b2
  have HCT : Hid (w2.cell? ⟨w.heap.size, 0, none⟩ = some (.slice oT ns.length capT)) := cell_later b2 c1
  obtain ⟨x, rfl, hl⟩ := ht.some (by omega)
  have HLI : Hid (Lies w x ns) := hl
  have HT : Hid (IsT w (some x) ns) := ht
  have HTX : Hid (Texts.IsTx w o ss) := hx
  have hM := may_of hm
  have HVAL : Hid (∀ v, Below w.heap.size w v → Calls Tryz.prog 112 #[.slice o ss.length cap] v fun r w' => r = .returned (.string (mk (validOf (ss.map bl)))) ∧ Below v.heap.size v w') := fun v hv => validR o cap ss hl4 v (hx.later hv)
  have HKS : Hid (∀ v, Below w.heap.size w v → Calls Tryz.prog 83 #[.agg #[.slice (some x) ns.length capT], .int .i64 (n : Int)] v fun r w' => ∃ o c, r = .returned (.tuple #[.slice o (kids ns n).length c, .int .i64 0]) ∧ w'.ownsRow v.heap.size 3 1 (.slice o (kids ns n).length c) (kids ns n).length (ints (kids ns n)) ∧ Below v.heap.size v w') := fun v hv => by
    have hB : hasB ns (n : Int) = true := by unfold hasB; rw [hm, decide_eq_true (by omega)]; rfl
    have hKA : kidsA ns (n : Int) = kids ns n := by unfold kidsA; rw [if_pos hB]
    have := kidsR (some x) capT ns (n : Int) v (HT.out.later hv)
    rw [hB, hKA] at this
    exact this
  have j0 : (0 : Int) ≤ (n : Int) := Int.natCast_nonneg _
  have j1 : (n : Int) < (ns.length : Int) := by omega
  generalize hvd : validOf (ss.map bl) = vd at *
  have q0 : decide ((64 : Int) < ((ss.length : Nat) : Int)) = true := decide_eq_true (by omega)
  have hlen0 : (0 : Int) ≤ ((ss.length : Nat) : Int) := Int.natCast_nonneg _
  have B1 : Hid (Below w.heap.size w w1) := b1
  clear s1 c1 b1 b2 hl hx ht z2
  go_enter Tryz.func62, Tryz.ntmps62
  go_wp2_with fail
  refine (HVAL.out w2 B2.out).mono ?_
  rintro e w3 ⟨rfl, b3⟩
  have B3 : Hid (Below w.heap.size w w3) := bel2 B2.out b3
  have hS3 := b3.size
  have XR3 : Hid (Bx w3 w1.heap.size nil none 0) := x2.later b3
  have HC3 : Hid (w3.cell? ⟨w.heap.size, 0, none⟩ = some (.slice (some x) ns.length capT)) := cell_later b3 HCT.out
  obtain ⟨w4, e4', x4, b4, z4⟩ := box7 w3 nil none 0
  have e4 : w3.alloc (.cells #[.int .i64 0, .int .i64 0, .int .i64 0, .string ⟨#[]⟩, .string ⟨#[]⟩, .string ⟨#[]⟩, .slice none 0 0] 27) = w4 := e4'
  have m0 := x4.c0
  have m1 := x4.c1
  have m2 := x4.c2
  have m3 := x4.c3
  have m4 := x4.c4
  have m5 := x4.c5
  have m6 := x4.c6
  have f0 := x4.fz 0
  have f1 := x4.fz 1
  have f2 := x4.fz 2
  have f3 := x4.fz 3
  have f4 := x4.fz 4
  have f5 := x4.fz 5
  have f6 := x4.fz 6
  clear e4' b3 x2 e1 e2
  go_upto_region 2 with fail
  obtain ⟨w5, e5, x5, h5, k5⟩ := set7 x4 ⟨0, 0, ((ss.length : Nat) : Int), mk vd, ⟨#[]⟩, ⟨#[]⟩, []⟩ none 0
  have e5' : ((((((w4.setCell ⟨w3.heap.size, 0, none⟩ (.int .i64 0)).setCell ⟨w3.heap.size, 1, none⟩ (.int .i64 0)).setCell ⟨w3.heap.size, 2, none⟩ (.int .i64 ((ss.length : Nat) : Int))).setCell ⟨w3.heap.size, 3, none⟩ (.string (mk vd))).setCell ⟨w3.heap.size, 4, none⟩ (.string ⟨#[]⟩)).setCell ⟨w3.heap.size, 5, none⟩ (.string ⟨#[]⟩)).setCell ⟨w3.heap.size, 6, none⟩ (.slice none 0 0) = w5 := e5
  rw [e5']
  have B5 : Hid (Below w.heap.size w w5) := (bel2 B3.out b4).trans (k5 w.heap.size (by omega))
  have XR4 := XR3.out.later b4
  have XR5 : Hid (Bx w5 w1.heap.size nil none 0) := ⟨(h5 _ (by omega)).trans XR4.blk⟩
  have X5 : Hid (Bx w5 w3.heap.size ⟨0, 0, ((ss.length : Nat) : Int), mk vd, ⟨#[]⟩, ⟨#[]⟩, []⟩ none 0) := x5
  clear m0 m1 m2 m3 m4 m5 m6 f0 f1 f2 f3 f4 f5 f6 e5 e5' e4 x5 x4 b4 z4 h5 k5 XR4
  have d0 := X5.out.c0
  have d1 := X5.out.c1
  have d2 := X5.out.c2
  have d3 := X5.out.c3
  have d4 := X5.out.c4
  have d5 := X5.out.c5
  have d6 := X5.out.c6
  have u0 := XR5.out.c0
  have u1 := XR5.out.c1
  have u2 := XR5.out.c2
  have u3 := XR5.out.c3
  have u4 := XR5.out.c4
  have u5 := XR5.out.c5
  have u6 := XR5.out.c6
  have v0 := XR5.out.fz 0
  have v1 := XR5.out.fz 1
  have v2 := XR5.out.fz 2
  have v3 := XR5.out.fz 3
  have v4 := XR5.out.fz 4
  have v5 := XR5.out.fz 5
  have v6 := XR5.out.fz 6
  unfold nil at u0 u1 u2 u3 u4 u5 u6
  have HN : Hid ((buildF ns (f + 1) n (ss.map bl)).isSome = false) := by
    unfold Hid
    rw [buildF, if_neg (fun h => by have := h.1; rw [List.length_map] at this; omega)]
    rfl
  obtain ⟨w11, e11, x11, h11, b11⟩ := set7 XR5.out ⟨0, 0, ((ss.length : Nat) : Int), mk vd, ⟨#[]⟩, ⟨#[]⟩, []⟩ none 0
  have e11b : (((((((w5).setCell ⟨w1.heap.size, 0, none⟩ (.int .i64 0)).setCell ⟨w1.heap.size, 1, none⟩ (.int .i64 0)).setCell ⟨w1.heap.size, 2, none⟩ (.int .i64 ((ss.length : Nat) : Int))).setCell ⟨w1.heap.size, 3, none⟩ (.string (mk vd))).setCell ⟨w1.heap.size, 4, none⟩ (.string ⟨#[]⟩)).setCell ⟨w1.heap.size, 5, none⟩ (.string ⟨#[]⟩)).setCell ⟨w1.heap.size, 6, none⟩ (.slice none 0 0) = w11 := e11
  have HB11 : Hid (Below w.heap.size w w11) := B5.out.trans (b11 w.heap.size (by omega))
  have q1 := x11.c0
  have q2 := x11.c1
  have q3 := x11.c2
  have q4 := x11.c3
  have q5 := x11.c4
  have q6 := x11.c5
  have q7 := x11.c6
  clear e11 x11 h11 b11
  go_wp2_with fail
  try rw [e11b]
  exact bodyPost_ret (v := .tuple #[.agg #[.int .i64 0, .int .i64 0, .int .i64 ((ss.length : Nat) : Int), .string (mk vd), .string ⟨#[]⟩, .string ⟨#[]⟩, .slice none 0 0], .bool false]) (by simp [results, Tryz.results62, go_sem, q1, q2, q3, q4, q5, q6, q7]) rfl (none_done (B := B) ⟨0, 0, ((ss.length : Nat) : Int), mk vd, ⟨#[]⟩, ⟨#[]⟩, []⟩ none 0 HN.out HB11.out)
theorem build_step (B f : Nat) (hB : 4096 ≤ B) (ih : Hid (BuildC B f)) : BuildC B (f + 1) := by
  intro ns oT capT n g ss o cap w hn hm hf hg hF hl hx ht
  obtain ⟨g, rfl⟩ : ∃ y, g = y + 1 := ⟨g - 1, by omega⟩
  by_cases h64 : ss.length ≤ 64
  · rcases kinds (may_of hm) hn with e | e | e | e | e
    · exact buildInt B f g hB ns oT capT n ss o cap w hn hm hF h64 hx ht e
    · exact buildBool B f g hB ns oT capT n ss o cap w hn hm hF h64 hx ht e
    · exact buildBytes B f g hB ns oT capT n ss o cap w hn hm hF h64 hx ht e
    · exact buildList B f g hB ih ns oT capT n ss o cap w hn hm hF h64 hx ht hf hg e
    · exact buildStruct B f g hB ih ns oT capT n ss o cap w hn hm hF h64 hx ht hf hg e
  · exact buildLong B f g hB ns oT capT n ss o cap w hn hm hF (by omega) hx ht hl
theorem buildR (B : Nat) (hB : 4096 ≤ B) : ∀ f, BuildC B f := by
  intro f
  induction f with
  | zero => intro ns oT capT n g ss o cap w hn hm hf; omega
  | succ f ih => exact build_step B f hB ih
theorem buildA (B : Nat) (hB : 4096 ≤ B) (ns : List Nd) (oT : Option Addr) (capT : Nat) (at' : Int) (ss : List ByteArray) (o : Option Addr) (cap : Nat) (w : World) (hl4 : ss.length ≤ 8796093021952) (hx : Texts.IsTx w o ss) (ht : IsT w oT ns) :
    Calls Tryz.prog 27 #[.agg #[.slice oT ns.length capT], .int .i64 at', .slice o ss.length cap] w (BdQ B ns at' ss w) :=
  buildA_of B hB ns oT capT at' ss o cap w hl4 hx ht fun n wr _ hn hm hF hb => by
    have hmost := (may_of hm).most
    exact buildR B hB 8 ns oT capT n 8 ss o cap wr hn hm (by omega) (by omega) hF hl4 (hx.later hb) (ht.later hb)
end Go.Proofs.YtcpfhfdgfcilaaaGreatDoor.Arr
