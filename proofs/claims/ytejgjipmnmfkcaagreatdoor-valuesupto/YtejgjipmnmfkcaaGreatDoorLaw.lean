/-
  The law Values, walked.
-/
import Derived.Test.YtejgjipmnmfkcaaGreatDoorTree
import Derived.Test.YtejgjipmnmfkcaaGreatDoorMem
import Derived.Test.YtejgjipmnmfkcaaGreatDoorMay
import Derived.Test.YtejgjipmnmfkcaaGreatDoorHelp
import Derived.Test.YtejgjipmnmfkcaaGreatDoorCopy
import Derived.Test.YtejgjipmnmfkcaaGreatDoorEnv
import Derived.Test.YtejgjipmnmfkcaaGreatDoorHome
import Derived.Test.YtejgjipmnmfkcaaGreatDoorMake
import Derived.Test.YtejgjipmnmfkcaaGreatDoorPartsC
import Derived.Test.YtejgjipmnmfkcaaGreatDoorFitsZ
import Derived.Test.YtejgjipmnmfkcaaGreatDoorAwake
import Derived.Test.YtejgjipmnmfkcaaGreatDoorRefDig
import Derived.Test.YtejgjipmnmfkcaaGreatDoorRefParts
import Derived.Test.YtejgjipmnmfkcaaGreatDoorRefFits
import Derived.Test.YtejgjipmnmfkcaaGreatDoorLend
import Derived.Deep.QuietTactic
import Derived.WalkSmall
import Derived.BigQuiet
import Derived.Deep.RegionWith
import Derived.OwnWalk
import Derived.RegionTactic
import Derived.ChangeAlike
import Derived.Deep.CutBlock
namespace Go.Proofs.YtejgjipmnmfkcaaGreatDoor.Tree
open Go.ChangeShapes Go.WideShapes Go.ChangeAt Go.RowKit

/-- A world in which what w1 has still stands. -/
structure BW (w1 : World) where
  w : World
  ok : Below w1.heap.size w1 w
theorem BW.some (w1 : World) : Nonempty (BW w1) := ⟨⟨w1, Below.refl _ _⟩⟩
theorem region_in {P : Program} {C : World → Prop} {id : Nat} {Q : Exit → Act → World → Prop} {a : Act} {w : World} {l : List Oper} (hm : P.follows .mixedOrders = true) (hB : Region.lexB .any l.toArray = true) (hC : C w.drew)
    (h : wpQuiet P l.toArray C (fun a' => ∀ w', C w' → Q .normal a' w') l a) : (Code.region id l.toArray true).wp P Q a w :=
  wp_region_quiet (C := C) hm hB hC (by simpa using h)
end Go.Proofs.YtejgjipmnmfkcaaGreatDoor.Tree
namespace Go.Proofs.YtejgjipmnmfkcaaGreatDoor.Val
open Go.ChangeShapes Go.WideShapes Go.ChangeAt Go.RowKit
open Tree
open Texts

/-- A type that came in: nil, or its nodes lie somewhere. -/
def CoN (w : World) (a : Option Addr) (cap : Nat) (l : List Nd) : Prop := a = none ∧ l = [] ∧ cap = 0 ∨ ∃ x, a = some x ∧ Lies w x l
theorem CoN.later {w w' : World} {a : Option Addr} {cap : Nat} {l : List Nd} (h : CoN w a cap l) (hb : Below w.heap.size w w') : CoN w' a cap l :=
  h.imp id fun ⟨x, e, hl⟩ => ⟨x, e, hl.later hb⟩
/-- A copy of a type that came in, a row of its own. -/
theorem copyO {w : World} {a : Option Addr} {cap : Nat} {l : List Nd} (h : CoN w a cap l) (hlen : l.length * 24 ≤ 140737488355328) :
    Calls Tryz.prog 5 #[.agg #[.slice a l.length cap]] w fun r w' => ∃ o c, r = .returned (.agg #[.slice o l.length c]) ∧ w'.ownsRow w.heap.size 59 3 (.slice o l.length c) l.length (cellsN l) ∧ Below w.heap.size w w' := by
  rcases h with ⟨rfl, rfl, rfl⟩ | ⟨x, rfl, hl⟩
  · exact copyNil w
  · exact copyT x cap l w hl hlen
theorem Lent.lt {w : World} {g c : Nat} {ss : List ByteArray} (h : Lent w g c ss) : g < w.heap.size := World.block_lt_of_cell? _ _ h.room
theorem Lent.set {w : World} {g c : Nat} {ss : List ByteArray} (h : Lent w g c ss) (p : Addr) (hp : g ≠ p.block) (v : Value) : Lent (w.setCell p v) g c ss := by
  have e : ∀ j, (w.setCell p v).cell? ⟨g, j, none⟩ = w.cell? ⟨g, j, none⟩ := fun j => World.cell?_setCell_other _ _ _ _ (by intro c; exact hp (by rw [c]))
  exact ⟨h.cap, h.max, fun i hi => by rw [e]; exact h.at' i hi, by rw [e]; exact h.room, by rw [e]; exact h.behind⟩
theorem own_gt {w w' : World} {o : Obj} {g n c : Nat} {xs : List Value} (h : w'.ownsRow (w.alloc o).drew.heap.size 9 1 (.slice (some ⟨g, 0, none⟩) n c) n xs) : w.heap.size < g := by
  have := (h.lt g rfl).1
  simp at this
  omega
/-- Where the law stands behind its first line. -/
def Start (w : World) (ss : List ByteArray) (o4 : Option Addr) (cap4 : Nat) (ns : List Nd) (u v : Value) (wx : World) : Prop :=
  ∃ g c p o5 c5, u = .slice (some ⟨g, 0, none⟩) ss.length c ∧ v = .pointer (some ⟨p, 0, none⟩) ∧ wx.cell? ⟨p, 0, none⟩ = some (.slice o5 ns.length c5) ∧ IsT wx o5 ns ∧ Lent wx g c ss ∧ wx.cell? ⟨w.heap.size, 0, none⟩ = some (.slice o4 ns.length cap4) ∧ Below w.heap.size w wx
theorem laid1 (X : World) (v : Value) (t : TypeId) : (X.alloc (.cells #[v] t)).cell? ⟨X.heap.size, 0, none⟩ = some v ∧ (X.alloc (.cells #[v] t)).frozen? ⟨X.heap.size, 0, none⟩ = false := by
  constructor <;> simp
theorem startC {w wb w1 w2 : World} {ss : List ByteArray} {o4 : Option Addr} {cap4 : Nat} {ns : List Nd} {g c : Nat} {o5 : Option Addr} {c5 : Nat} (BB : Below w.heap.size w wb) (BW1 : Below wb.heap.size wb w1) (HL1 : Lent w1 g c ss)
    (cb1 : w1.cell? ⟨w.heap.size, 0, none⟩ = some (.slice o4 ns.length cap4)) (HO : w2.ownsRow w1.heap.size 59 3 (.slice o5 ns.length c5) ns.length (cellsN ns) ∧ Below w1.heap.size w1 w2) :
    Start w ss o4 cap4 ns (.slice (some ⟨g, 0, none⟩) ss.length c) (.pointer (some ⟨w2.heap.size, 0, none⟩)) (w2.alloc (.cells #[.slice o5 ns.length c5] 25)) := by
  have ba : Below w2.heap.size w2 (w2.alloc (.cells #[.slice o5 ns.length c5] 25)) := (Below.refl _ _).alloc (Nat.le_refl _) _
  exact ⟨g, c, w2.heap.size, o5, c5, rfl, rfl, (laid1 w2 _ 25).1, (own_lies HO.1).later ba, HL1.later (bel2 HO.2 ba), cell_later (bel2 HO.2 ba) cb1, bel2 BB (bel2 BW1 (bel2 HO.2 ba))⟩
theorem startB {w wb w1 w2 : World} {ss : List ByteArray} {o4 : Option Addr} {cap4 : Nat} {ns : List Nd} {g c : Nat} {o5 : Option Addr} {c5 : Nat} (BB : Below w.heap.size w wb) (BW1 : Below wb.heap.size wb w1) (HL1 : Lent w1 g c ss)
    (cb : wb.cell? ⟨w.heap.size, 0, none⟩ = some (.slice o4 ns.length cap4)) (cz : w2.cell? ⟨w1.heap.size, 0, none⟩ = some (.slice none 0 0)) (HO : w2.ownsRow (w1.alloc (.cells #[.slice none 0 0] 25)).heap.size 59 3 (.slice o5 ns.length c5) ns.length (cellsN ns) ∧ Below (w1.alloc (.cells #[.slice none 0 0] 25)).heap.size (w1.alloc (.cells #[.slice none 0 0] 25)) w2) :
    Start w ss o4 cap4 ns (.slice (some ⟨g, 0, none⟩) ss.length c) (.pointer (some ⟨w1.heap.size, 0, none⟩)) (w2.setCell ⟨w1.heap.size, 0, none⟩ (.slice o5 ns.length c5)) := by
  have ba : Below w1.heap.size w1 w2 := bel2 ((Below.refl _ _).alloc (Nat.le_refl _) _) HO.2
  have l1 := World.block_lt_of_cell? _ _ cb
  have l2 := BW1.size
  have l3 := HL1.lt
  have cb2 := cell_later (bel2 BW1 ba) cb
  have l1' : w.heap.size < wb.heap.size := l1
  refine ⟨g, c, w1.heap.size, o5, c5, rfl, rfl, World.cell?_setCell_same _ _ _ cz, own_lies (ownsRow_setCell_below HO.1 (by simp) _), (HL1.later ba).set _ (by show g ≠ w1.heap.size; omega) _, ?_, (bel2 BB (bel2 BW1 ba)).setCell (by show w.heap.size ≤ w1.heap.size; omega) _⟩
  rw [World.cell?_setCell_other _ _ _ _ (by intro e; injection e with e; omega)]
  exact cb2
theorem startA {w wb w1 w2 : World} {ss : List ByteArray} {o4 : Option Addr} {cap4 : Nat} {ns : List Nd} {g c : Nat} {o5 : Option Addr} {c5 : Nat} (BB : Below w.heap.size w wb) (BW1 : Below wb.heap.size wb w1) (HL1 : Lent w1 g c ss) (hg : wb.heap.size < g)
    (cb : wb.cell? ⟨w.heap.size, 0, none⟩ = some (.slice o4 ns.length cap4)) (ca : w1.cell? ⟨wb.heap.size, 0, none⟩ = some (.slice none 0 0)) (HO : w2.ownsRow w1.heap.size 59 3 (.slice o5 ns.length c5) ns.length (cellsN ns) ∧ Below w1.heap.size w1 w2) :
    Start w ss o4 cap4 ns (.slice (some ⟨g, 0, none⟩) ss.length c) (.pointer (some ⟨wb.heap.size, 0, none⟩)) (w2.setCell ⟨wb.heap.size, 0, none⟩ (.slice o5 ns.length c5)) := by
  have l1 := World.block_lt_of_cell? _ _ cb
  have l1' : w.heap.size < wb.heap.size := l1
  have l2 := World.block_lt_of_cell? _ _ ca
  have cb2 := cell_later (bel2 BW1 HO.2) cb
  have ca2 := cell_later HO.2 ca
  refine ⟨g, c, wb.heap.size, o5, c5, rfl, rfl, World.cell?_setCell_same _ _ _ ca2, own_lies (ownsRow_setCell_below HO.1 l2 _), (HL1.later HO.2).set _ (by show g ≠ wb.heap.size; omega) _, ?_, (bel2 BB (bel2 BW1 HO.2)).setCell (by show w.heap.size ≤ wb.heap.size; omega) _⟩
  rw [World.cell?_setCell_other _ _ _ _ (by intro e; injection e with e; omega)]
  exact cb2
/-- How much a value's parts are. -/
theorem tell_size {v : ByteArray} {k : Int} {ps : List ByteArray} {E : Int} (h : TellA v k ps E) : ps.length ≤ 65536 ∧ ∀ i, (ps.getD i ByteArray.empty).size ≤ 65536 := by
  rcases h with ⟨h, _⟩ | ⟨_, _, rfl, _⟩
  · by_cases hv : isVal (bl v)
    · have hs : v.size ≤ 65536 := by have := hv.1; rw [bl_length] at this; exact this
      have hb := body_size v hs
      obtain ⟨qs, h1, h2⟩ := parts_told hv
      rw [h] at h1
      injection h1 with h1
      injection h1 with h1 h3
      subst h3
      rcases h2 with ⟨_, rfl⟩ | ⟨_, hr⟩ | ⟨_, rfl⟩
      · exact ⟨Nat.zero_le _, fun i => Nat.zero_le _⟩
      · refine ⟨Nat.le_trans hr.len hb, fun i => ?_⟩
        by_cases hi : i < ps.length
        · have := hr.pos_le (i + 1)
          rw [pos_succ ps i hi] at this
          omega
        · rw [List.getD_eq_getElem?_getD, List.getElem?_eq_none (by omega)]
          exact Nat.zero_le _
      · refine ⟨by simp, fun i => ?_⟩
        cases i with
        | zero => exact hb
        | succ i => exact Nat.zero_le _
    · rw [partsS_none hv] at h
      cases h
  · exact ⟨Nat.zero_le _, fun i => Nat.zero_le _⟩
set_option maxRecDepth 20000 in
set_option maxHeartbeats 3200000 in
theorem valuesC (a0 : Int) (hx : in64 a0) (a1 : Bool) (a2 : ByteArray) (s2 : a2.size ≤ 1048576) (o3 : Option Addr) (cap3 : Nat) (ss : List ByteArray) (hn : ss.length ≤ 1048576) (hfl : (flat ss).length ≤ 1048576)
    (o4 : Option Addr) (cap4 : Nat) (ns : List Nd) (hnl : ns.length * 24 ≤ 140737488355328) (a5 : Int) (a6 : ByteArray) (s6 : a6.size ≤ 1048576) (w : World) (hw : Hid (Home w)) (hco3 : Hid (CoT w o3 cap3 ss)) (htx3 : Hid (IsTx w o3 ss)) (ht : Hid (IsT w o4 ns)) (hco4 : Hid (CoN w o4 cap4 ns)) :
    Calls Tryz.prog 3 #[.int .i64 a0, .bool a1, .string a2, .slice o3 ss.length cap3, .agg #[.slice o4 ns.length cap4], .int .i64 a5, .string a6] w fun r w' => r = .returned (.bool true) ∧ Below w.heap.size w w' := by
  obtain ⟨wb, eb, hsb, cb, bb⟩ := boxed w (.slice o4 ns.length cap4) 25
  have BB : Hid (Below w.heap.size w wb) := bb
  clear bb hsb
  go_enter Tryz.func3, Tryz.ntmps3
  go_upto_region 1 with fail
  clear eb
  go_cut [15, 16] from 24 (fun u v wx => Start w ss o4 cap4 ns u v wx)
  case first =>
    have cbz : (wb.alloc (.cells #[.slice none 0 0] 25)).cell? ⟨w.heap.size, 0, none⟩ = some (.slice o4 ns.length cap4) := cell_later ((Below.refl _ _).alloc (Nat.le_refl _) _) cb
    go_region_with (first
      | (go_at_call 4; refine (lendTexts o3 cap3 ss hn wb.drew (hco3.out.later (bel2 BB.out (drewN_below _ 1)))).mono ?_; rintro e w1 ⟨g, c, rfl, hc, hown, b1⟩; have HL1 : Hid (Lent w1 g c ss) := lent_of hc hn hown; have BW1 : Hid (Below wb.heap.size wb w1) := bel2 (drewN_below _ 1) b1; have cb1 := cell_later BW1.out cb; have cb1z : (w1.alloc (.cells #[.slice none 0 0] 25)).cell? ⟨w.heap.size, 0, none⟩ = some (.slice o4 ns.length cap4) := cell_later ((Below.refl _ _).alloc (Nat.le_refl _) _) cb1; clear hown b1)
      | (go_at_call 4; refine (lendTexts o3 cap3 ss hn (wb.alloc (.cells #[.slice none 0 0] 25)).drew (hco3.out.later (bel2 BB.out (bel2 ((Below.refl _ _).alloc (Nat.le_refl _) _) (drewN_below _ 1))))).mono ?_; rintro e w1 ⟨g, c, rfl, hc, hown, b1⟩; have HL1 : Hid (Lent w1 g c ss) := lent_of hc hn hown; have BW1 : Hid (Below wb.heap.size wb w1) := bel2 (bel2 ((Below.refl _ _).alloc (Nat.le_refl _) _) (drewN_below _ 1)) b1; have cb1 := cell_later BW1.out cb; have cb1z : (w1.alloc (.cells #[.slice none 0 0] 25)).cell? ⟨w.heap.size, 0, none⟩ = some (.slice o4 ns.length cap4) := cell_later ((Below.refl _ _).alloc (Nat.le_refl _) _) cb1; have HG1 : Hid (wb.heap.size < g) := own_gt hown; have ca : w1.cell? ⟨wb.heap.size, 0, none⟩ = some (.slice none 0 0) := cell_later b1 (laid1 wb (.slice none 0 0) 25).1; have fa : w1.frozen? ⟨wb.heap.size, 0, none⟩ = false := (b1.frozen (p := ⟨wb.heap.size, 0, none⟩) (by simp)).trans (laid1 wb (.slice none 0 0) 25).2; clear hown b1)
      | (go_at_call 5; refine (copyO (w := w1) (hco4.out.later (bel2 BB.out BW1.out)) hnl).mono ?_; rintro e w2 ⟨o5, c5, rfl, hO, b2⟩; (try have ca2 := cell_later b2 ca); (try have fa2 := (b2.frozen (p := ⟨wb.heap.size, 0, none⟩) (World.block_lt_of_cell? _ _ ca)).trans fa); have HO2 : Hid (w2.ownsRow w1.heap.size 59 3 (.slice o5 ns.length c5) ns.length (cellsN ns) ∧ Below w1.heap.size w1 w2) := ⟨hO, b2⟩; clear hO b2)
      | (go_at_call 5; refine (copyO (w := w1.alloc (.cells #[.slice none 0 0] 25)) (hco4.out.later (bel2 BB.out (bel2 BW1.out ((Below.refl _ _).alloc (Nat.le_refl _) _)))) hnl).mono ?_; rintro e w2 ⟨o5, c5, rfl, hO, b2⟩; have cz := cell_later b2 (laid1 w1 (.slice none 0 0) 25).1; have fz := (b2.frozen (p := ⟨w1.heap.size, 0, none⟩) (by simp)).trans (laid1 w1 (.slice none 0 0) 25).2; have HO3 : Hid (w2.ownsRow (w1.alloc (.cells #[.slice none 0 0] 25)).heap.size 59 3 (.slice o5 ns.length c5) ns.length (cellsN ns) ∧ Below (w1.alloc (.cells #[.slice none 0 0] 25)).heap.size (w1.alloc (.cells #[.slice none 0 0] 25)) w2) := ⟨hO, b2⟩; clear hO b2))
    all_goals
      go_wp2_with fail
      go_meet
      case rel => first | exact startC BB.out BW1.out HL1.out cb1 HO2.out | exact startB BB.out BW1.out HL1.out cb cz HO3.out | exact startA BB.out BW1.out HL1.out HG1.out cb ca HO2.out
  case rest =>
    obtain ⟨g, c, p, o5, c5, rfl, rfl, hp, hU, hL, hc, hb⟩ := hcut
    obtain ⟨k, ps, E, hA⟩ := tellA_some a6
    have HA : Hid (TellA a6 k ps E) := hA
    obtain ⟨hpl, hpz⟩ := tell_size hA
    have HPZ : Hid (∀ i, (ps.getD i ByteArray.empty).size ≤ 65536) := hpz
    have HW : Hid (Home wc) := hw.out.later hb
    have HP : Hid (wc.cell? ⟨p, 0, none⟩ = some (.slice o5 ns.length c5)) := hp
    have HC : Hid (wc.cell? ⟨w.heap.size, 0, none⟩ = some (.slice o4 ns.length cap4)) := hc
    have HU : Hid (IsT wc o5 ns) := hU
    have HL : Hid (Lent wc g c ss) := hL
    have HT : Hid (IsT wc o4 ns) := ht.out.later hb
    have HX3 : Hid (IsTx wc o3 ss) := htx3.out.later hb
    have HB : Hid (Below w.heap.size w wc) := hb
    have hcap : ss.length + 2 ≤ c := hL.cap
    clear hp hU hL hc hb hA hpz ht htx3 hw hco3 hco4 cb BB
    go_wp2_with fail
    refine (partsC a6 k ps E (by omega) HA wc HW).mono ?_
    rintro e w3 ⟨oP, cP, rfl, hown3, b3⟩
    have HO3 : Hid (w3.ownsRow wc.heap.size 9 1 (.slice oP ps.length cP) ps.length (cellsT ps)) := hown3
    have B3 : Hid (Below wc.heap.size wc w3) := b3
    clear hown3 b3
    go_wp2_with fail
    refine (partsR a6 k ps E HA w3).mono ?_
    rintro e w4 ⟨oQ, cQ, rfl, hown4, b4⟩
    have HO4 : Hid (w4.ownsRow wc.heap.size 9 1 (.slice oP ps.length cP) ps.length (cellsT ps)) := own_later HO3.out b4
    have HTQ : Hid (IsTx w4 oQ ps) := own_texts hown4
    have HTP : Hid (IsTx w4 oP ps) := own_texts HO4.out
    have B4 : Hid (Below wc.heap.size wc w4) := bel2 B3.out b4
    have qk : (k != k) = false := by rw [bne_eq_false_iff_eq]
    have qe : (E != E) = false := by rw [bne_eq_false_iff_eq]
    clear hown4 b4 HO3 B3
    go_wp2_with fail
    refine (sameTexts oP oQ cP cQ ps (by omega) w4 HTP HTQ).mono ?_
    rintro e w5 ⟨rfl, b5⟩
    have HO5 : Hid (w5.ownsRow wc.heap.size 9 1 (.slice oP ps.length cP) ps.length (cellsT ps)) := own_later HO4.out b5
    have B5 : Hid (Below wc.heap.size wc w5) := bel2 B4.out b5
    clear b5 HO4 B4 HTQ HTP
    go_wp2_with fail
    refine (numC E w5).mono ?_
    rintro e wx ⟨rfl, hwx⟩
    subst wx
    go_wp2_with fail
    refine (spoilTexts oP cP wc.heap.size ps hpl HPZ w5 HO5).mono ?_
    rintro e w6 ⟨rfl, b6⟩
    have B6 : Hid (Below wc.heap.size wc w6) := B5.out.trans b6
    have HW6 : Home w6 := HW.out.later B6.out
    have q0 : ((mk nullM).toList == [110]) = true := by decide +kernel
    clear b6 HO5 B5 qk qe
    go_wp2_with fail
    refine (nullC w6).mono ?_
    rintro e wx ⟨rfl, hwx⟩
    subst wx
    generalize mk nullM = tN at *
    go_wp2_with fail
    refine (intC a0 hx w6 HW6).mono ?_
    rintro e w7 ⟨rfl, b7⟩
    have B7 : Hid (Below wc.heap.size wc w7) := bel2 B6.out b7
    clear b7 HW6
    go_wp2_with fail
    refine (intR a0 hx w7).mono ?_
    rintro e w8 ⟨rfl, b8⟩
    have B8 : Hid (Below wc.heap.size wc w8) := bel2 B7.out b8
    have q1 : ((mk (intM a0)).toList == (mk (intM a0)).toList) = true := beq_self_eq_true _
    clear b8
    generalize mk (intM a0) = tI at *
    go_wp2_with fail
    refine (boolC a1 w8).mono ?_
    rintro e wx ⟨rfl, hwx⟩
    subst wx
    go_wp2_with fail
    refine (boolR a1 w8).mono ?_
    rintro e wx ⟨rfl, hwx⟩
    subst wx
    have q2 : ((mk (boolM a1)).toList == (mk (boolM a1)).toList) = true := beq_self_eq_true _
    generalize mk (boolM a1) = tB at *
    go_wp2_with fail
    refine (bytesC a2 (by omega) w8 (HW.out.later B8.out)).mono ?_
    rintro e w9 ⟨rfl, b9⟩
    have B9 : Hid (Below wc.heap.size wc w9) := bel2 B8.out b9
    clear b9
    go_wp2_with fail
    refine (bytesR a2 (by omega) w9).mono ?_
    rintro e w10 ⟨rfl, b10⟩
    have B10 : Hid (Below wc.heap.size wc w10) := bel2 B9.out b10
    have q3 : ((mk (bytesM (bl a2))).toList == (mk (bytesM (bl a2))).toList) = true := beq_self_eq_true _
    clear b10
    generalize mk (bytesM (bl a2)) = tS at *
    go_wp2_with fail
    refine (listC (some ⟨g, 0, none⟩) c ss (by omega) (by omega) (by omega) w10 (HL.out.tx.later B10.out)).mono ?_
    rintro e w11 ⟨rfl, b11⟩
    have B11 : Hid (Below wc.heap.size wc w11) := bel2 B10.out b11
    clear b11
    go_wp2_with fail
    refine (listR o3 cap3 ss (by omega) (by omega) w11 (HX3.out.later B11.out)).mono ?_
    rintro e wx ⟨rfl, hwx⟩
    subst wx
    have q4 : ((mk (listM (ss.map bl))).toList == (mk (listM (ss.map bl))).toList) = true := beq_self_eq_true _
    generalize mk (listM (ss.map bl)) = tL at *
    go_wp2_with fail
    refine (structC (some ⟨g, 0, none⟩) c ss (by omega) (by omega) (by omega) w11 (HL.out.tx.later B11.out)).mono ?_
    rintro e w12 ⟨rfl, b12⟩
    have B12 : Hid (Below wc.heap.size wc w12) := bel2 B11.out b12
    clear b12
    go_wp2_with fail
    refine (structR o3 cap3 ss (by omega) (by omega) w12 (HX3.out.later B12.out)).mono ?_
    rintro e wx ⟨rfl, hwx⟩
    subst wx
    have q5 : ((mk (structM (ss.map bl))).toList == (mk (structM (ss.map bl))).toList) = true := beq_self_eq_true _
    generalize mk (structM (ss.map bl)) = tO at *
    clear B6 B7 B8 B9 B10 B11
    go_upto_region 8 with fail
    have cP' : ∀ s : BW w12, s.w.cell? ⟨p, 0, none⟩ = some (.slice o5 ns.length c5) := fun s => cell_later s.ok (cell_later B12.out HP.out)
    have cC' : ∀ s : BW w12, s.w.cell? ⟨w.heap.size, 0, none⟩ = some (.slice o4 ns.length cap4) := fun s => cell_later s.ok (cell_later B12.out HC.out)
    have hne := BW.some w12
    have qf : (fitsZ ns a5 a6 == fitsZ ns a5 a6) = true := beq_self_eq_true _
    clear q0 q1 q2 q3 q4 q5
    refine region_in (C := fun w' => ∃ s : BW w12, w' = s.w) (by kernel_rfl) (by kernel_rfl) ⟨⟨w12.drew, (Below.refl _ _).drew⟩, rfl⟩ ?_
    repeat (go_big_quiet_step (first
      | (go_at_call 22; rename_i s; refine (fitsC o5 c5 ns a5 a6 (by omega) s.w (HU.out.later (bel2 B12.out s.ok)) (HW.out.later (bel2 B12.out s.ok))).mono ?_; rintro e wx ⟨rfl, hbx⟩; exact ⟨rfl, ⟨wx, bel2 s.ok hbx⟩, rfl⟩)
      | (go_at_call 23; rename_i s; refine (fitsRZ o4 cap4 ns a5 a6 s.w (HT.out.later (bel2 B12.out s.ok))).mono ?_; rintro e wx ⟨rfl, hbx⟩; exact ⟨rfl, ⟨wx, bel2 s.ok hbx⟩, rfl⟩)
      | (go_at_call 24; rename_i s; refine (keptTexts g c o3 cap3 ss s.w (HL.out.later (bel2 B12.out s.ok)) (HX3.out.later (bel2 B12.out s.ok))).mono ?_; rintro e wx ⟨rfl, hbx⟩; exact ⟨rfl, ⟨wx, bel2 s.ok hbx⟩, rfl⟩)
      | (go_at_call 25; rename_i s; refine (sameType o5 o4 c5 cap4 ns s.w (HU.out.later (bel2 B12.out s.ok)) (HT.out.later (bel2 B12.out s.ok))).mono ?_; rintro e wx ⟨rfl, hbx⟩; exact ⟨rfl, ⟨wx, bel2 s.ok hbx⟩, rfl⟩)
      | (go_at_call 26; rename_i s; refine (awake s.w (HW.out.later (bel2 B12.out s.ok))).mono ?_; rintro e wx ⟨rfl, hbx⟩; exact ⟨rfl, ⟨wx, bel2 s.ok hbx⟩, rfl⟩)))
    refine wpQuiet_nil ?_
    intro _ hw'
    obtain ⟨s, hw''⟩ := hw'
    subst hw''
    have HE : Hid (Below w.heap.size w s.w) := bel2 HB.out (bel2 B12.out s.ok)
    clear cP' cC' hne
    go_wp2
    go_ret
    exact ⟨rfl, HE.out⟩
end Go.Proofs.YtejgjipmnmfkcaaGreatDoor.Val
