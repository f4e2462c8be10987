/-
  Several texts in one: Whether an array may be, behind its head: May: contract. · Whether an array may be: May, of any array: contract. · The document's own small questions of an array: bare, there, mayEnds: contracts. · What the document's own functions over types compute: contracts. · The document's plainMay: contract.
-/
import Derived.Test.YtcpfhfdgfcilaaaGreatDoorB08
import Derived.Test.YtcpfhfdgfcilaaaGreatDoorProg
import GoSem.Claim
import GoSem.ClaimJoined
import GoSem.ClaimMapViews
import Derived.JoinedTies
import Derived.KernelRfl
import Derived.RowKit
import Derived.Test.YtcpfhfdgfcilaaaGreatDoorB01
import Derived.Test.YtcpfhfdgfcilaaaGreatDoorB02
import Derived.WalkKit
import Derived.ProofKit
import Derived.OpenShut
import Derived.Below
import Derived.RegionTactic
import Derived.ChangeAlike
import Derived.OwnWalk
namespace Go.Proofs.YtcpfhfdgfcilaaaGreatDoor.Arr
open Go.ChangeShapes Go.WideShapes Go.ChangeAt Go.RowKit
open Tree Val

/-- An operation taken first, where its result lies told. -/
theorem take_at {P : Program} {ops : Array Oper} {Q : Exit → Act → World → Prop} {md : Region.Mode} {S : World → Prop} {i : Nat} {oi : Oper} {v : Value} {fuel : Nat} {listed : Array Bool} {a : Act} {w : World} {d : Option Nat} (hi : ops[i]? = some oi) (hd : oi.dst = d)
    (hs : Region.noSelect ops = true) (hf : Region.free md ops listed i = true) (hr : (Region.ready md ops listed).contains i = true)
    (hQ : ∀ c a w, Q (.panic c) (a.put oi.dst v) w → Q (.panic c) a w) (hy : YieldsIf P ops S oi v a) (hS : S w)
    (h : wpAnyH P md ops Q S fuel (listed.setIfInBounds i true) (a.put d v) w) : wpAnyH P md ops Q S (fuel + 1) listed a w := by
  subst hd
  exact wpAnyH_take hi hs hf hr hQ hy hS h
end Go.Proofs.YtcpfhfdgfcilaaaGreatDoor.Arr
namespace Go.Proofs.YtcpfhfdgfcilaaaGreatDoor.Arr
open Go.ChangeShapes Go.WideShapes Go.ChangeAt Go.RowKit
open Tree Val

end Go.Proofs.YtcpfhfdgfcilaaaGreatDoor.Arr
namespace Go.Proofs.YtcpfhfdgfcilaaaGreatDoor.Arr
open Go.ChangeShapes Go.WideShapes Go.ChangeAt Go.RowKit
open Tree Val

set_option maxHeartbeats 800000 in
theorem refBare (a : Arr) (o : Option Addr) (cap : Nat) (w : World) :
    Calls Tryz.prog 84 #[a.val o cap] w fun e w' => e = .returned (.bool (bare a)) ∧ Below w.heap.size w w' := by
  obtain ⟨w1, e1, x1, b1, z1⟩ := box7 w a o cap
  have d4 := x1.c4
  have d6 := x1.c6
  have B1 : Hid (Below w.heap.size w w1) := b1
  have HF : Hid (bare a = (decide (a.ends.size = 0) && decide (a.kids.length = 0))) := by unfold Hid bare; cases a.kids <;> simp
  unfold Arr.val
  clear x1 b1 z1
  generalize bare a = R at *
  by_cases h : a.ends.size = 0
  · rw [decide_eq_true h, Bool.true_and] at HF
    have hv := empty_of h
    generalize a.ends = v at *
    subst hv
    clear h
    generalize a.kids.length = q at *
    go_enter Tryz.func84, Tryz.ntmps84
    go_wp2
    go_ret
    refine ⟨ret_bool ?_, B1.out⟩
    rw [HF.out]
    rw [Bool.eq_iff_iff]
    simp
  · rw [decide_eq_false h, Bool.false_and] at HF
    have hv := ne_empty h
    clear h
    go_enter Tryz.func84, Tryz.ntmps84
    go_wp2
    go_ret
    exact ⟨ret_bool HF.out.symm, B1.out⟩
set_option maxHeartbeats 800000 in
theorem refThere (a : Arr) (o : Option Addr) (cap : Nat) (r : Nat) (hs : a.valid.size ≤ 4096) (hr : a.valid.size = 0 ∨ r < 8 * a.valid.size) (w : World) :
    Calls Tryz.prog 56 #[a.val o cap, .int .i64 (r : Int)] w fun e w' => e = .returned (.bool (there a r)) ∧ Below w.heap.size w w' := by
  obtain ⟨w1, e1, x1, b1, z1⟩ := box7 w a o cap
  have d3 := x1.c3
  have B1 : Hid (Below w.heap.size w w1) := b1
  clear x1 b1 z1
  unfold Arr.val
  by_cases h : a.valid.size = 0
  · have HF2 : Hid (there a r = true) := by unfold Hid there; rw [decide_eq_true h, Bool.true_or]
    have hv := empty_of h
    generalize there a r = R at *
    generalize a.valid = v at *
    subst hv
    clear h hs hr
    go_enter Tryz.func56, Tryz.ntmps56
    go_wp2
    go_ret
    exact ⟨ret_bool HF2.out.symm, B1.out⟩
  · have HF2 : Hid (there a r = BitP.bit a.valid.data.toList r) := there_bit h
    have hr : r < 8 * a.valid.size := by omega
    have hv := ne_empty h
    generalize there a r = R at *
    generalize a.valid = v at *
    clear h
    go_enter Tryz.func56, Tryz.ntmps56
    go_wp2_with fail
    refine (Bit.refBit v r (by omega) (by omega) (by omega) w1).mono ?_
    rintro e w' ⟨rfl, rfl⟩
    go_wp2
    go_ret
    exact ⟨ret_bool (by rw [HF2.out]), B1.out⟩
theorem refGet_yes (s : ByteArray) (i : Nat) (hs : s.size ≤ 4096) (h : has4 s i = true) (w : World) :
    Calls Tryz.prog 55 #[.string s, .int .i64 (4 * (i : Int)), .int .i64 4] w fun r w' => r = .returned (.tuple #[.int .i64 ((endAt s i : Nat) : Int), .int .i64 0]) ∧ w' = w := by
  have h := (has4_iff _ _).1 h
  have := Fix.refGet4 s (4 * i) w (by omega) h.1 h.2
  rw [show ((4 * i : Nat) : Int) = 4 * (i : Int) from by omega] at this
  exact this
theorem refGet_not (s : ByteArray) (i : Nat) (hs : s.size ≤ 4096) (h : has4 s i = false) (w : World) :
    Calls Tryz.prog 55 #[.string s, .int .i64 (4 * (i : Int)), .int .i64 4] w fun r w' => r = .returned (.tuple #[.int .i64 0, .int .i64 300]) ∧ w' = w := by
  by_cases h1 : 4 * i + 4 ≤ s.size
  · have h2 : 2147483647 < endAt s i := by
      have : ¬ (has4 s i = true) := by rw [h]; simp
      rw [has4_iff] at this
      omega
    have := Fix.refGet4_no s (4 * i) w (by omega) h1 h2
    rw [show ((4 * i : Nat) : Int) = 4 * (i : Int) from by omega] at this
    exact this
  · exact Fix.refGet_no s (4 * (i : Int)) 4 w (by omega) (by omega)
theorem endAt_le (s : ByteArray) (i : Nat) : endAt s i ≤ 4294967295 := by
  have := Plain.val_lt (bl s) (4 * i) 4
  unfold endAt
  have e : (256 : Nat) ^ 4 = 4294967296 := by decide
  rw [e] at this
  omega
theorem prev_le (s : ByteArray) (i : Nat) : prev s i ≤ 4294967295 := by
  cases i with
  | zero => rw [prev_zero]; omega
  | succ i => rw [prev_succ]; exact endAt_le s i
/-- What the loop of ends asks, in letters. -/
structure Asked (s : ByteArray) (first last apart : Int) (E P : Nat → Nat) (h q : Nat → Bool) : Prop where
  yes : ∀ i w, h i = true → Calls Tryz.prog 55 #[.string s, .int .i64 (4 * (i : Int)), .int .i64 4] w fun r w' => r = .returned (.tuple #[.int .i64 ((E i : Nat) : Int), .int .i64 0]) ∧ w' = w
  no : ∀ i w, h i = false → Calls Tryz.prog 55 #[.string s, .int .i64 (4 * (i : Int)), .int .i64 4] w fun r w' => r = .returned (.tuple #[.int .i64 0, .int .i64 300]) ∧ w' = w
  most : ∀ i, E i ≤ 4294967295
  prevs : ∀ i, P i ≤ 4294967295
  zero : P 0 = 0
  succ : ∀ i, P (i + 1) = E i
  iff : ∀ i, q i = true ↔ h i = true ∧ P i ≤ E i ∧ (E i : Int) ≤ last ∧ ((i : Int) ≤ first ∨ (E i : Int) - (P i : Int) ≤ apart)
theorem asked (s : ByteArray) (first last apart : Int) (hs : s.size ≤ 4096) : Asked s first last apart (endAt s) (prev s) (has4 s) (endsP s first last apart) :=
  ⟨fun i w h => refGet_yes s i hs h w, fun i w h => refGet_not s i hs h w, endAt_le s, prev_le s, prev_zero s, prev_succ s, fun i => by rw [endsP_iff, has4_iff]⟩
set_option maxRecDepth 20000 in
set_option maxHeartbeats 1600000 in
theorem refEnds_w (s : ByteArray) (rows : Nat) (first last apart : Int) (E P : Nat → Nat) (h q : Nat → Bool) (hQ : Hid (Asked s first last apart E P h q)) (hr : rows ≤ 64) (R : Bool) (hR : Hid (R = true ↔ ∀ i, i ≤ rows → q i = true)) (w : World) :
    Calls Tryz.prog 85 #[.string s, .int .i64 (rows : Int), .int .i64 first, .int .i64 last, .int .i64 apart] w fun e w' => e = .returned (.bool R) ∧ w' = w := by
  have HNO : Hid (∀ i, i ≤ rows → q i = false → R = false) := fun i hi hq => by
    cases c : R
    · rfl
    · have := hR.out.1 c i hi
      rw [hq] at this
      cases this
  go_enter Tryz.func85, Tryz.ntmps85
  go_wp2_with fail
  go_loop [11, 12] (fun z t => ∃ k : Nat, k ≤ rows + 1 ∧ t = .int .i64 (k : Int) ∧ z = .int .i64 ((P k : Nat) : Int) ∧ (∀ j, j < k → q j = true)) (fun _ t => rows + 1 - (intOf t).toNat)
  case atStart => exact ⟨0, Nat.zero_le _, rfl, by rw [hQ.out.zero]; rfl, fun j hj => by omega⟩
  case round =>
    obtain ⟨k, hk, rfl, rfl, hall⟩ := hrel
    have HA : Hid (∀ j, j < k → q j = true) := hall
    clear hall
    by_cases hlt : k ≤ rows
    · have hp0 := hQ.out.prevs k
      have hx0 := hQ.out.most k
      have HP : Hid (q k = true ↔ h k = true ∧ P k ≤ E k ∧ (E k : Int) ≤ last ∧ ((k : Int) ≤ first ∨ (E k : Int) - (P k : Int) ≤ apart)) := hQ.out.iff k
      have HPS : Hid (P (k + 1) = E k) := hQ.out.succ k
      cases hh : h k
      · have HN : Hid (R = false) := HNO.out k hlt (by
          cases c : q k
          · rfl
          · have := (HP.out.1 c).1
            rw [hh] at this
            cases this)
        have HC : Hid (Calls Tryz.prog 55 #[.string s, .int .i64 (4 * (k : Int)), .int .i64 4] w fun r w' => r = .returned (.tuple #[.int .i64 0, .int .i64 300]) ∧ w' = w) := hQ.out.no k w hh
        clear hh
        generalize P k = p at *
        go_wp2_with fail
        refine HC.out.mono ?_
        rintro e w' ⟨rfl, rfl⟩
        go_wp2
        go_ret
        exact ⟨ret_bool HN.out.symm, rfl⟩
      · have HC : Hid (Calls Tryz.prog 55 #[.string s, .int .i64 (4 * (k : Int)), .int .i64 4] w fun r w' => r = .returned (.tuple #[.int .i64 ((E k : Nat) : Int), .int .i64 0]) ∧ w' = w) := hQ.out.yes k w hh
        have HNX : Hid (q k = false → R = false) := HNO.out k hlt
        have HK : Hid (q k = true → ∀ j, j < k + 1 → q j = true) := fun hG j hj => by
          by_cases e : j = k
          · rw [e]; exact hG
          · exact HA.out j (by omega)
        rw [hh] at HP
        clear hh
        generalize hE : E k = x at *
        generalize P k = p at *
        clear hE
        have hsub : IntKind.i64.wrap ((x : Int) - (p : Int)) = (x : Int) - (p : Int) := by rw [IntKind.wrap_i64]; omega
        go_wp2_with fail
        refine HC.out.mono ?_
        rintro e w' ⟨rfl, rfl⟩
        cases hE : q k
        · have HN : Hid (R = false) := HNX.out hE
          have HNE : Hid (¬ (p ≤ x ∧ (x : Int) ≤ last ∧ ((k : Int) ≤ first ∨ (x : Int) - (p : Int) ≤ apart))) := fun hc => by
            have := HP.out.2 ⟨trivial, hc⟩
            rw [hE] at this
            cases this
          clear hE HP HNX
          by_cases g1 : (x : Int) < (p : Int)
          · go_wp2
            go_ret
            exact ⟨ret_bool HN.out.symm, rfl⟩
          by_cases g2 : last < (x : Int)
          · go_wp2
            go_ret
            exact ⟨ret_bool HN.out.symm, rfl⟩
          have g3 : first < (k : Int) := by
            by_cases c : first < (k : Int)
            · exact c
            · exact absurd ⟨by omega, by omega, .inl (by omega)⟩ HNE.out
          have g4 : apart < (x : Int) - (p : Int) := by
            by_cases c : apart < (x : Int) - (p : Int)
            · exact c
            · exact absurd ⟨by omega, by omega, .inr (by omega)⟩ HNE.out
          go_wp2
          go_ret
          exact ⟨ret_bool HN.out.symm, rfl⟩
        · obtain ⟨_, q1, q2, q3⟩ := HP.out.1 hE
          have HKK : Hid (∀ j, j < k + 1 → q j = true) := HK.out hE
          clear hE HP HNX HK
          have g1 : ¬ (x : Int) < (p : Int) := by omega
          have g2 : ¬ last < (x : Int) := by omega
          by_cases g3 : first < (k : Int)
          · have g4 : ¬ apart < (x : Int) - (p : Int) := by
              rcases q3 with c | c <;> omega
            clear q1 q2 q3
            go_wp2
            go_round
            case rel => exact ⟨k + 1, by omega, by go_num, by rw [HPS.out], HKK.out⟩
            case measure => simp [intOf]; omega
          · clear q1 q2 q3
            go_wp2
            go_round
            case rel => exact ⟨k + 1, by omega, by go_num, by rw [HPS.out], HKK.out⟩
            case measure => simp [intOf]; omega
    · obtain rfl : k = rows + 1 := by omega
      have HN : Hid (R = true) := hR.out.2 fun i hi => HA.out i (by omega)
      generalize P (rows + 1) = p at *
      go_wp2
      go_ret
      exact ⟨ret_bool HN.out.symm, rfl⟩
theorem refEnds (s : ByteArray) (rows : Nat) (first last apart : Int) (hs : s.size ≤ 4096) (hr : rows ≤ 64) (w : World) :
    Calls Tryz.prog 85 #[.string s, .int .i64 (rows : Int), .int .i64 first, .int .i64 last, .int .i64 apart] w fun e w' => e = .returned (.bool (endsB s rows first last apart)) ∧ w' = w :=
  refEnds_w s rows first last apart _ _ _ _ (asked s first last apart hs) hr _ (endsB_iff _ _ _ _ _) w
end Go.Proofs.YtcpfhfdgfcilaaaGreatDoor.Arr
namespace Go.Proofs.YtcpfhfdgfcilaaaGreatDoor.Tree
open Go.ChangeShapes Go.WideShapes Go.ChangeAt Go.RowKit

set_option maxRecDepth 20000 in
set_option maxHeartbeats 800000 in
theorem nodeMay (a : Option Addr) (cap : Nat) (l : List Nd) (i : Int) (w : World) (h : IsT w a l) :
    Calls Tryz.prog 51 #[.agg #[.slice a l.length cap], .int .i64 i] w fun r w' => r = .returned (.bool (hasB l i)) ∧ Below w.heap.size w w' := by
  have hlen := h.1
  unfold maxLen at hlen
  have hb : Below w.heap.size w (w.alloc (Obj.cells #[.slice a l.length cap] 24)) := (Below.refl _ _).alloc (Nat.le_refl _) _
  have hc : (w.alloc (Obj.cells #[.slice a l.length cap] 24)).cell? ⟨w.heap.size, 0, none⟩ = some (.slice a l.length cap) := by simp
  cases hm : may l
  · have HB : hasB l i = false := by unfold hasB; rw [hm, Bool.and_false]
    rw [HB]
    have HM : Hid (may l = false) := hm
    clear HB hm
    go_enter Tryz.func51, Tryz.ntmps51
    go_wp2_with fail
    refine (refMay a cap l _ (h.later hb)).mono ?_
    rintro e w' ⟨rfl, hb'⟩
    rw [HM.out]
    go_wp2
    go_ret
    exact ⟨rfl, bel hb hb'⟩
  · have HB : hasB l i = decide (0 ≤ i ∧ i < l.length) := by unfold hasB; rw [hm, Bool.and_true]
    rw [HB]
    have HM : Hid (may l = true) := hm
    clear HB hm
    by_cases h0 : 0 ≤ i
    · go_enter Tryz.func51, Tryz.ntmps51
      go_wp2_with fail
      refine (refMay a cap l _ (h.later hb)).mono ?_
      rintro e w' ⟨rfl, hb'⟩
      rw [HM.out]
      have hc2 := cell_later hb' hc
      go_wp2
      go_ret
      exact ⟨ret_bool (by simp [h0]), bel hb hb'⟩
    · rw [decide_eq_false (fun h => h0 h.1)]
      go_enter Tryz.func51, Tryz.ntmps51
      go_wp2_with fail
      refine (refMay a cap l _ (h.later hb)).mono ?_
      rintro e w' ⟨rfl, hb'⟩
      rw [HM.out]
      have hc2 := cell_later hb' hc
      go_wp2
      go_ret
      exact ⟨rfl, bel hb hb'⟩
set_option maxRecDepth 20000 in
set_option maxHeartbeats 800000 in
theorem kidsR (a : Option Addr) (cap : Nat) (l : List Nd) (i : Int) (w : World) (h : IsT w a l) :
    Calls Tryz.prog 83 #[.agg #[.slice a l.length cap], .int .i64 i] w fun r w' => ∃ o c, r = .returned (.tuple #[.slice o (kidsA l i).length c, .int .i64 (errA (hasB l i))]) ∧ w'.ownsRow w.heap.size 3 1 (.slice o (kidsA l i).length c) (kidsA l i).length (ints (kidsA l i)) ∧ Below w.heap.size w w' := by
  unfold kidsA errA
  have hb : Below w.heap.size w (w.alloc (Obj.cells #[.slice a l.length cap] 24)) := (Below.refl _ _).alloc (Nat.le_refl _) _
  have hc : (w.alloc (Obj.cells #[.slice a l.length cap] 24)).cell? ⟨w.heap.size, 0, none⟩ = some (.slice a l.length cap) := by simp
  cases hh : hasB l i
  · rw [if_neg (by simp), if_neg (by simp)]
    have HH : Hid (hasB l i = false) := hh
    clear hh
    go_enter Tryz.func83, Tryz.ntmps83
    go_wp2_with fail
    refine (nodeMay a cap l i _ (h.later hb)).mono ?_
    rintro e w' ⟨rfl, hb'⟩
    rw [HH.out]
    go_wp2
    go_ret2
    exact ⟨none, 0, rfl, World.ownsRow_nil _ _ _ _, bel hb hb'⟩
  · rw [if_pos rfl, if_pos rfl]
    obtain ⟨k, rfl, hk, hm⟩ := has_of hh
    have HH : Hid (hasB l k = true) := hh
    have HM : Hid (May l) := hm
    clear hh hm
    obtain ⟨x, rfl, hl⟩ := h.some (by omega)
    go_enter Tryz.func83, Tryz.ntmps83
    go_wp2_with fail
    refine (nodeMay _ cap l k _ (h.later hb)).mono ?_
    rintro e w' ⟨rfl, hb'⟩
    rw [HH.out]
    have hc2 := cell_later hb' hc
    go_wp2_with fail
    refine (refKids x cap l HM.out.one HM.out.most k _ (hl.later (bel hb hb'))).mono ?_
    rintro e w3 ⟨o, c, rfl, hown, hb3⟩
    go_wp2
    go_ret2
    exact ⟨o, c, rfl, own_mono hown (bel hb hb').size, bel (bel hb hb') hb3⟩
/-- What has been counted on the way from a up, when z is asked next. -/
def LevInv (l : List Nd) (a r d : Nat) (z : Int) : Prop :=
  (z = -1 ∧ r = rep l a ∧ d = dfn l a) ∨ ∃ k : Nat, k ≤ a ∧ z = k ∧ r + rep l k = rep l a ∧ d + dfn l k = dfn l a
theorem LevInv.start (l : List Nd) (a : Nat) : LevInv l a 0 0 a := .inr ⟨a, Nat.le_refl _, rfl, by omega, by omega⟩
theorem LevInv.more {l : List Nd} {a k r d : Nat} (hu : Up l a) (h : LevInv l a r d k) : k ≤ a ∧ LevInv l a (r + rep1 (nd l k)) (d + def1 (nd l k)) (nd l k).par ∧ -1 ≤ (nd l k).par ∧ (nd l k).par < k ∧ r ≤ rep l a ∧ d ≤ dfn l a := by
  rcases h with h | ⟨k', h1, h2, h4, h5⟩
  · omega
  obtain rfl : k = k' := by omega
  refine ⟨h1, ?_, ?_⟩
  · by_cases e : k = 0
    · subst e
      rw [rep_first] at h4
      rw [dfn_first] at h5
      exact .inl ⟨hu.first, h4, h5⟩
    · have hp := hu.par k (by omega) h1
      rw [hu.rep_up (by omega) h1] at h4
      rw [hu.dfn_up (by omega) h1] at h5
      exact .inr ⟨(nd l k).par.toNat, by omega, by omega, by omega, by omega⟩
  · by_cases e : k = 0
    · subst e; rw [hu.first]; omega
    · have hp := hu.par k (by omega) h1
      omega
theorem LevInv.done {l : List Nd} {a r d : Nat} {z : Int} (h : LevInv l a r d z) (hz : z < 0) : r = rep l a ∧ d = dfn l a := by
  rcases h with h | ⟨k', h1, h2, h3, h4⟩
  · exact h.2
  · omega
end Go.Proofs.YtcpfhfdgfcilaaaGreatDoor.Tree
namespace Go.Proofs.YtcpfhfdgfcilaaaGreatDoor.Arr
open Go.ChangeShapes Go.WideShapes Go.ChangeAt Go.RowKit
open Tree Val

/-- What the document's ArrayMay answers of an array no deeper than told. -/
def RefC (B bytes f : Nat) : Prop := ∀ (ns : List Nd) (oT : Option Addr) (capT : Nat) (at' : Int) (a : Arr) (o : Option Addr) (cap : Nat) (w : World), IsT w oT ns → HoldsF B bytes w f (a.cells o cap) a →
  Calls Tryz.prog 23 #[.agg #[.slice oT ns.length capT], .int .i64 at', a.val o cap] w fun r w' => r = .returned (.bool (mayZ ns at' f a)) ∧ Below w.heap.size w w'
theorem plain_list2 {ns : List Nd} {f n : Nat} {a : Arr} (hk : (nd ns n).kind = 3) : plainB (mayF ns f) ns n a = (decide (a.data.size = 0) && (decide (a.kids.length = 1) && (mayF ns f (kAt ns n 0) (kidAt a 0) && endsB a.ends (rowsOf a) a.offset (kidAt a 0).length 2147483647))) := by
  unfold plainB
  rw [if_neg (by omega), if_neg (by omega), if_neg (by omega), if_pos hk]
  simp only [Bool.and_assoc]
theorem plain_bytes2 {ns : List Nd} {f n : Nat} {a : Arr} (hk : (nd ns n).kind = 2) : plainB (mayF ns f) ns n a = (decide (a.kids.length = 0) && endsB a.ends (rowsOf a) a.offset (a.data.size : Int) 16) := by
  unfold plainB
  rw [if_neg (by omega), if_neg (by omega), if_pos hk]
  cases a.kids <;> simp
theorem plain_int2 {ns : List Nd} {f n : Nat} {a : Arr} (hk : (nd ns n).kind = 0) : plainB (mayF ns f) ns n a = (bare a && decide (8 * (rowsOf a : Int) ≤ (a.data.size : Int))) := by
  unfold plainB
  rw [if_pos hk]
  congr 1
  rw [Bool.eq_iff_iff, decide_eq_true_eq, decide_eq_true_eq]
  omega
theorem plain_bool2 {ns : List Nd} {f n : Nat} {a : Arr} (hk : (nd ns n).kind = 1) : plainB (mayF ns f) ns n a = (bare a && decide ((((rowsOf a : Nat) : Int) + 7) / 8 ≤ (a.data.size : Int))) := by
  unfold plainB
  rw [if_neg (by omega), if_pos hk]
  congr 1
  rw [Bool.eq_iff_iff, decide_eq_true_eq, decide_eq_true_eq]
  omega
set_option maxRecDepth 20000 in
set_option maxHeartbeats 3200000 in
theorem refInt (f : Nat) (ns : List Nd) (oT : Option Addr) (capT n : Nat) (hn : n < ns.length) (hm : may ns = true) (a : Arr) (o : Option Addr) (cap : Nat) (ho : Ok a) (hk : (nd ns n).kind = 0) (w : World) (ht : IsT w oT ns) :
    Calls Tryz.prog 53 #[.agg #[.slice oT ns.length capT], .int .i64 (n : Int), a.val o cap, .int .i64 ((rowsOf a : Nat) : Int)] w fun r w' => r = .returned (.bool (plainB (mayF ns f) ns n a)) ∧ Below w.heap.size w w' := by
  obtain ⟨w1, e1, s1, c1, b1⟩ := boxed w (.slice oT ns.length capT) 24
  obtain ⟨w2, e2, x2, b2, z2⟩ := box7 w1 a o cap
  obtain ⟨x, rfl, hl⟩ := ht.some (by omega)
  have hB : hasB ns (n : Int) = true := by unfold hasB; rw [hm, decide_eq_true (by omega)]; rfl
  have hKA : kidsA ns (n : Int) = kids ns n := by unfold kidsA; rw [if_pos hB]
  have B2 : Hid (Below w.heap.size w w2) := bel2 b1 b2
  have cT := cell_later b2 c1
  have HCT : Hid (w2.cell? ⟨w.heap.size, 0, none⟩ = some (.slice (some x) ns.length capT)) := cT
  have HK : Hid (Calls Tryz.prog 83 #[.agg #[.slice (some x) ns.length capT], .int .i64 (n : Int)] w2 fun r w' => ∃ o c, r = .returned (.tuple #[.slice o (kids ns n).length c, .int .i64 0]) ∧ w'.ownsRow w2.heap.size 3 1 (.slice o (kids ns n).length c) (kids ns n).length (ints (kids ns n)) ∧ Below w2.heap.size w2 w') := by
    have := kidsR (some x) capT ns (n : Int) w2 (ht.later B2.out)
    rw [hB, hKA] at this
    exact this
  have X2 : Hid (Bx w2 w1.heap.size a o cap) := x2
  have HT : Hid (IsT w (some x) ns) := ht
  have HLI : Hid (Lies w x ns) := hl
  have hrow : rowsOf a ≤ 64 := by have := ho.rows; have := ho.off; have := ho.len; unfold rowsOf; omega
  have HKD : Hid ((nd ns n).kind = 0) := hk
  have j0 : (0 : Int) ≤ (n : Int) := Int.natCast_nonneg _
  have j1 : (n : Int) < (ns.length : Int) := by omega
  have hds := ho.data
  have hes := ho.ends
  clear s1 c1 b1 b2 x2 z2 hB hKA ht hl
  have HB : Hid (∀ v, Calls Tryz.prog 84 #[a.val o cap] v fun e w' => e = .returned (.bool (bare a)) ∧ Below v.heap.size v w') := fun v => refBare a o cap v
  have HP : Hid (plainB (mayF ns f) ns n a = (bare a && decide (8 * (rowsOf a : Int) ≤ (a.data.size : Int)))) := plain_int2 hk
  unfold Arr.val at HB
  generalize plainB (mayF ns f) ns n a = R at *
  generalize rowsOf a = m at *
  clear hk ho
  unfold Arr.val
  go_enter Tryz.func53, Tryz.ntmps53
  go_wp2_with fail
  refine HK.out.mono ?_
  rintro e w3 ⟨oK, cK, rfl, hown, b3⟩
  have B3 : Hid (Below w.heap.size w w3) := bel2 B2.out b3
  have HIK : Hid (IsI w3 w2.heap.size oK (kids ns n)) := own_ints hown
  have X3 : Hid (Bx w3 w1.heap.size a o cap) := X2.out.later b3
  have HC3 : Hid (w3.cell? ⟨w.heap.size, 0, none⟩ = some (.slice (some x) ns.length capT)) := cell_later b3 HCT.out
  have HL3 : Hid (Lies w3 x ns) := HLI.out.later B3.out
  have n0 := HL3.out.kind' n hn
  rw [HKD.out] at n0
  have cT3 := HC3.out
  have d0 := X3.out.c0
  have d1 := X3.out.c1
  have d2 := X3.out.c2
  have d3 := X3.out.c3
  have d4 := X3.out.c4
  have d5 := X3.out.c5
  have d6 := X3.out.c6
  clear b3 e1 e2 cT hown
  cases hb : bare a
  · rw [hb] at HB HP
    have HN : Hid (R = false) := HP.out
    clear hb
    go_wp2_with fail
    refine (HB.out w3).mono ?_
    rintro e w4 ⟨rfl, b4⟩
    go_wp2
    go_ret
    exact ⟨ret_bool HN.out.symm, bel2 B3.out b4⟩
  · rw [hb] at HB HP
    have HN : Hid (R = decide (8 * (m : Int) ≤ (a.data.size : Int))) := HP.out
    clear hb
    go_wp2_with fail
    refine (HB.out w3).mono ?_
    rintro e w4 ⟨rfl, b4⟩
    have X4 := X3.out.later b4
    clear d0 d1 d2 d3 d4 d5 d6
    have d5 := X4.c5
    clear X4
    go_wp2
    go_ret
    exact ⟨ret_bool HN.out.symm, bel2 B3.out b4⟩
set_option maxRecDepth 20000 in
set_option maxHeartbeats 3200000 in
theorem refBytes (f : Nat) (ns : List Nd) (oT : Option Addr) (capT n : Nat) (hn : n < ns.length) (hm : may ns = true) (a : Arr) (o : Option Addr) (cap : Nat) (ho : Ok a) (hk : (nd ns n).kind = 2) (w : World) (ht : IsT w oT ns) :
    Calls Tryz.prog 53 #[.agg #[.slice oT ns.length capT], .int .i64 (n : Int), a.val o cap, .int .i64 ((rowsOf a : Nat) : Int)] w fun r w' => r = .returned (.bool (plainB (mayF ns f) ns n a)) ∧ Below w.heap.size w w' := by
  obtain ⟨w1, e1, s1, c1, b1⟩ := boxed w (.slice oT ns.length capT) 24
  obtain ⟨w2, e2, x2, b2, z2⟩ := box7 w1 a o cap
  obtain ⟨x, rfl, hl⟩ := ht.some (by omega)
  have hB : hasB ns (n : Int) = true := by unfold hasB; rw [hm, decide_eq_true (by omega)]; rfl
  have hKA : kidsA ns (n : Int) = kids ns n := by unfold kidsA; rw [if_pos hB]
  have B2 : Hid (Below w.heap.size w w2) := bel2 b1 b2
  have cT := cell_later b2 c1
  have HCT : Hid (w2.cell? ⟨w.heap.size, 0, none⟩ = some (.slice (some x) ns.length capT)) := cT
  have HK : Hid (Calls Tryz.prog 83 #[.agg #[.slice (some x) ns.length capT], .int .i64 (n : Int)] w2 fun r w' => ∃ o c, r = .returned (.tuple #[.slice o (kids ns n).length c, .int .i64 0]) ∧ w'.ownsRow w2.heap.size 3 1 (.slice o (kids ns n).length c) (kids ns n).length (ints (kids ns n)) ∧ Below w2.heap.size w2 w') := by
    have := kidsR (some x) capT ns (n : Int) w2 (ht.later B2.out)
    rw [hB, hKA] at this
    exact this
  have X2 : Hid (Bx w2 w1.heap.size a o cap) := x2
  have HT : Hid (IsT w (some x) ns) := ht
  have HLI : Hid (Lies w x ns) := hl
  have hrow : rowsOf a ≤ 64 := by have := ho.rows; have := ho.off; have := ho.len; unfold rowsOf; omega
  have HKD : Hid ((nd ns n).kind = 2) := hk
  have j0 : (0 : Int) ≤ (n : Int) := Int.natCast_nonneg _
  have j1 : (n : Int) < (ns.length : Int) := by omega
  have hds := ho.data
  have hes := ho.ends
  clear s1 c1 b1 b2 x2 z2 hB hKA ht hl
  have HE : Hid (∀ v, Calls Tryz.prog 85 #[.string a.ends, .int .i64 ((rowsOf a : Nat) : Int), .int .i64 a.offset, .int .i64 (a.data.size : Int), .int .i64 16] v fun e w' => e = .returned (.bool (endsB a.ends (rowsOf a) a.offset (a.data.size : Int) 16)) ∧ w' = v) := fun v => refEnds a.ends (rowsOf a) a.offset (a.data.size : Int) 16 ho.ends hrow v
  have HP : Hid (plainB (mayF ns f) ns n a = (decide (a.kids.length = 0) && endsB a.ends (rowsOf a) a.offset (a.data.size : Int) 16)) := plain_bytes2 hk
  generalize plainB (mayF ns f) ns n a = R at *
  generalize endsB a.ends (rowsOf a) a.offset (a.data.size : Int) 16 = EB at *
  generalize rowsOf a = m at *
  clear hk ho
  by_cases hq : a.kids.length = 0
  · rw [decide_eq_true hq, Bool.true_and] at HP
    have HQ0 : Hid (a.kids.length = 0) := hq
    clear hq
    unfold Arr.val
    go_enter Tryz.func53, Tryz.ntmps53
    go_wp2_with fail
    refine HK.out.mono ?_
    rintro e w3 ⟨oK, cK, rfl, hown, b3⟩
    have B3 : Hid (Below w.heap.size w w3) := bel2 B2.out b3
    have HIK : Hid (IsI w3 w2.heap.size oK (kids ns n)) := own_ints hown
    have X3 : Hid (Bx w3 w1.heap.size a o cap) := X2.out.later b3
    have HC3 : Hid (w3.cell? ⟨w.heap.size, 0, none⟩ = some (.slice (some x) ns.length capT)) := cell_later b3 HCT.out
    have HL3 : Hid (Lies w3 x ns) := HLI.out.later B3.out
    have n0 := HL3.out.kind' n hn
    rw [HKD.out] at n0
    have cT3 := HC3.out
    have d0 := X3.out.c0
    have d1 := X3.out.c1
    have d2 := X3.out.c2
    have d3 := X3.out.c3
    have d4 := X3.out.c4
    have d5 := X3.out.c5
    have d6 := X3.out.c6
    clear b3 e1 e2 cT hown
    have hq0 := HQ0.out
    rw [HQ0.out] at d6
    clear hq0
    go_wp2_with fail
    refine (HE.out w3).mono ?_
    rintro e w4 ⟨rfl, hw4⟩
    subst w4
    go_wp2
    go_ret
    exact ⟨ret_bool HP.out.symm, B3.out⟩
  · rw [decide_eq_false hq, Bool.false_and] at HP
    have hq2 : (((a.kids.length : Nat) : Int) == 0) = false := by rw [beq_eq_false_iff_ne]; omega
    unfold Arr.val
    go_enter Tryz.func53, Tryz.ntmps53
    go_wp2_with fail
    refine HK.out.mono ?_
    rintro e w3 ⟨oK, cK, rfl, hown, b3⟩
    have B3 : Hid (Below w.heap.size w w3) := bel2 B2.out b3
    have HIK : Hid (IsI w3 w2.heap.size oK (kids ns n)) := own_ints hown
    have X3 : Hid (Bx w3 w1.heap.size a o cap) := X2.out.later b3
    have HC3 : Hid (w3.cell? ⟨w.heap.size, 0, none⟩ = some (.slice (some x) ns.length capT)) := cell_later b3 HCT.out
    have HL3 : Hid (Lies w3 x ns) := HLI.out.later B3.out
    have n0 := HL3.out.kind' n hn
    rw [HKD.out] at n0
    have cT3 := HC3.out
    have d0 := X3.out.c0
    have d1 := X3.out.c1
    have d2 := X3.out.c2
    have d3 := X3.out.c3
    have d4 := X3.out.c4
    have d5 := X3.out.c5
    have d6 := X3.out.c6
    clear b3 e1 e2 cT hown
    go_wp2
    go_ret
    exact ⟨ret_bool HP.out.symm, B3.out⟩
set_option maxRecDepth 20000 in
set_option maxHeartbeats 3200000 in
theorem refBool (f : Nat) (ns : List Nd) (oT : Option Addr) (capT n : Nat) (hn : n < ns.length) (hm : may ns = true) (a : Arr) (o : Option Addr) (cap : Nat) (ho : Ok a) (hk : (nd ns n).kind = 1) (w : World) (ht : IsT w oT ns) :
    Calls Tryz.prog 53 #[.agg #[.slice oT ns.length capT], .int .i64 (n : Int), a.val o cap, .int .i64 ((rowsOf a : Nat) : Int)] w fun r w' => r = .returned (.bool (plainB (mayF ns f) ns n a)) ∧ Below w.heap.size w w' := by
  obtain ⟨w1, e1, s1, c1, b1⟩ := boxed w (.slice oT ns.length capT) 24
  obtain ⟨w2, e2, x2, b2, z2⟩ := box7 w1 a o cap
  obtain ⟨x, rfl, hl⟩ := ht.some (by omega)
  have hB : hasB ns (n : Int) = true := by unfold hasB; rw [hm, decide_eq_true (by omega)]; rfl
  have hKA : kidsA ns (n : Int) = kids ns n := by unfold kidsA; rw [if_pos hB]
  have B2 : Hid (Below w.heap.size w w2) := bel2 b1 b2
  have cT := cell_later b2 c1
  have HCT : Hid (w2.cell? ⟨w.heap.size, 0, none⟩ = some (.slice (some x) ns.length capT)) := cT
  have HK : Hid (Calls Tryz.prog 83 #[.agg #[.slice (some x) ns.length capT], .int .i64 (n : Int)] w2 fun r w' => ∃ o c, r = .returned (.tuple #[.slice o (kids ns n).length c, .int .i64 0]) ∧ w'.ownsRow w2.heap.size 3 1 (.slice o (kids ns n).length c) (kids ns n).length (ints (kids ns n)) ∧ Below w2.heap.size w2 w') := by
    have := kidsR (some x) capT ns (n : Int) w2 (ht.later B2.out)
    rw [hB, hKA] at this
    exact this
  have X2 : Hid (Bx w2 w1.heap.size a o cap) := x2
  have HT : Hid (IsT w (some x) ns) := ht
  have HLI : Hid (Lies w x ns) := hl
  have hrow : rowsOf a ≤ 64 := by have := ho.rows; have := ho.off; have := ho.len; unfold rowsOf; omega
  have HKD : Hid ((nd ns n).kind = 1) := hk
  have j0 : (0 : Int) ≤ (n : Int) := Int.natCast_nonneg _
  have j1 : (n : Int) < (ns.length : Int) := by omega
  have hds := ho.data
  have hes := ho.ends
  clear s1 c1 b1 b2 x2 z2 hB hKA ht hl
  have HB : Hid (∀ v, Calls Tryz.prog 84 #[a.val o cap] v fun e w' => e = .returned (.bool (bare a)) ∧ Below v.heap.size v w') := fun v => refBare a o cap v
  have HBB : Hid (∀ v, Calls Tryz.prog 52 #[.int .i64 ((rowsOf a : Nat) : Int)] v fun e w' => e = .returned (.int .i64 ((((rowsOf a : Nat) : Int) + 7) / 8)) ∧ w' = v) := fun v => Bit.bitBytes _ v (by omega) (by omega)
  have HP : Hid (plainB (mayF ns f) ns n a = (bare a && decide ((((rowsOf a : Nat) : Int) + 7) / 8 ≤ (a.data.size : Int)))) := plain_bool2 hk
  unfold Arr.val at HB
  generalize plainB (mayF ns f) ns n a = R at *
  generalize rowsOf a = m at *
  clear hk ho
  unfold Arr.val
  go_enter Tryz.func53, Tryz.ntmps53
  go_wp2_with fail
  refine HK.out.mono ?_
  rintro e w3 ⟨oK, cK, rfl, hown, b3⟩
  have B3 : Hid (Below w.heap.size w w3) := bel2 B2.out b3
  have HIK : Hid (IsI w3 w2.heap.size oK (kids ns n)) := own_ints hown
  have X3 : Hid (Bx w3 w1.heap.size a o cap) := X2.out.later b3
  have HC3 : Hid (w3.cell? ⟨w.heap.size, 0, none⟩ = some (.slice (some x) ns.length capT)) := cell_later b3 HCT.out
  have HL3 : Hid (Lies w3 x ns) := HLI.out.later B3.out
  have n0 := HL3.out.kind' n hn
  rw [HKD.out] at n0
  have cT3 := HC3.out
  have d0 := X3.out.c0
  have d1 := X3.out.c1
  have d2 := X3.out.c2
  have d3 := X3.out.c3
  have d4 := X3.out.c4
  have d5 := X3.out.c5
  have d6 := X3.out.c6
  clear b3 e1 e2 cT hown
  have hne := BW.some w3
  have C := X3.out.cells
  clear d0 d1 d2 d3 d4 d5 d6
  have d0 := C.d0
  have d1 := C.d1
  have d2 := C.d2
  have d3 := C.d3
  have d4 := C.d4
  have d5 := C.d5
  have d6 := C.d6
  clear C
  go_wp2_with fail
  cases hb : bare a
  · rw [hb] at HB HP
    have HN : Hid (R = false) := HP.out
    clear hb
    refine region_in (C := fun w' => ∃ s : BW w3, w' = s.w) (by kernel_rfl) (by kernel_rfl) ⟨⟨w3.drew, (Below.refl _ _).drew⟩, rfl⟩ ?_
    repeat (go_big_quiet_step (first
      | (go_at_call 84; rename_i s; refine (HB.out s.w).mono ?_; rintro e wx ⟨rfl, hbx⟩; exact ⟨rfl, ⟨wx, bel2 s.ok hbx⟩, rfl⟩)
      | (go_at_call 52; rename_i s; refine (HBB.out s.w).mono ?_; rintro e wx ⟨rfl, hbx⟩; exact ⟨rfl, s, hbx⟩)))
    refine wpQuiet_nil ?_
    intro _ hw'
    obtain ⟨s, hw''⟩ := hw'
    subst hw''
    have HE : Hid (Below w.heap.size w s.w) := bel2 B3.out s.ok
    clear hne d0 d1 d2 d3 d4 d5 d6
    go_wp2
    go_ret
    exact ⟨ret_bool HN.out.symm, HE.out⟩
  · rw [hb] at HB HP
    have HN : Hid (R = decide (((m : Int) + 7) / 8 ≤ (a.data.size : Int))) := HP.out
    clear hb
    refine region_in (C := fun w' => ∃ s : BW w3, w' = s.w) (by kernel_rfl) (by kernel_rfl) ⟨⟨w3.drew, (Below.refl _ _).drew⟩, rfl⟩ ?_
    repeat (go_big_quiet_step (first
      | (go_at_call 84; rename_i s; refine (HB.out s.w).mono ?_; rintro e wx ⟨rfl, hbx⟩; exact ⟨rfl, ⟨wx, bel2 s.ok hbx⟩, rfl⟩)
      | (go_at_call 52; rename_i s; refine (HBB.out s.w).mono ?_; rintro e wx ⟨rfl, hbx⟩; exact ⟨rfl, s, hbx⟩)))
    refine wpQuiet_nil ?_
    intro _ hw'
    obtain ⟨s, hw''⟩ := hw'
    subst hw''
    have HE : Hid (Below w.heap.size w s.w) := bel2 B3.out s.ok
    clear hne d0 d1 d2 d3 d4 d5 d6
    go_wp2
    go_ret
    exact ⟨ret_bool HN.out.symm, HE.out⟩
end Go.Proofs.YtcpfhfdgfcilaaaGreatDoor.Arr
