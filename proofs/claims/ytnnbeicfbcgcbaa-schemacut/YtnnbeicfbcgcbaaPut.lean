/-
  What the document's own PutSchema computes: its contract.
-/
import Derived.Test.YtnnbeicfbcgcbaaRows
import Derived.Test.YtnnbeicfbcgcbaaTree
import Derived.Test.YtnnbeicfbcgcbaaText
import Derived.Test.YtnnbeicfbcgcbaaOpen
import Derived.Test.YtnnbeicfbcgcbaaMem
import Derived.Test.YtnnbeicfbcgcbaaMay
import Derived.Test.YtnnbeicfbcgcbaaRefMay
import Derived.WalkKit
import Derived.ProofKit
import Derived.OpenShut
import Derived.Below
import Derived.RegionTactic
import Derived.ChangeAlike
import Derived.OwnWalk
import Derived.Laws.IdiomStrings
import Derived.Laws.OwnMore
namespace Go.Proofs.Ytnnbeicfbcgcbaa.Tree
open Go.ChangeShapes Go.WideShapes Go.ChangeAt Go.RowKit

theorem info5 : (Try.prog.info? 5).map (fun i => (i.zero, i.size, i.bytes)) = some (some (.int .u8 0), 1, 1) := by kernel_rfl
/-- Bytes, as cells. -/
def cellsB (l : List UInt8) : List Value := l.map fun b => .int .u8 ((b.toNat : Nat) : Int)
theorem cellsB_app (l m : List UInt8) : cellsB (l ++ m) = cellsB l ++ cellsB m := by simp [cellsB]
theorem own_text {w : World} {base n : Nat} {v : Value} {l : List UInt8} (h : w.ownsRow base 5 1 v n (cellsB l)) (h0 : 0 < n) : (convert 48 9 v).run Try.prog w = .ok (.string ⟨l.toArray⟩) w := by
  have hl : l.length = n := by have := h.1; simpa [cellsB] using this
  rcases h.2 with ⟨_, hn⟩ | ⟨g, cap, cur, rfl, _, _, _⟩
  · omega
  · rw [← hl]
    refine run_convert_bytes_back w 48 9 5 ⟨g, 0, none⟩ cap l Try.underlying48 Try.underlying5 Try.underlying9 ?_
    intro j hj
    rw [Addr.add_lit, Nat.zero_add, h.cellAt j (by omega)]
    simp [cellsB, hj]
theorem may_nums {l : List Nd} (h : May l) {k : Nat} (hk : k < l.length) : ∃ a c : Nat, nd l k = ⟨(a : Int), (c : Int) - 1, (nd l k).null⟩ ∧ a ≤ 4 ∧ c ≤ 8 := by
  have h1 := h.kind k hk
  have h8 := h.most
  have hp : -1 ≤ (nd l k).par ∧ (nd l k).par < 8 := by
    by_cases e : k = 0
    · subst e; rw [h.first]; omega
    · have := h.par k (by omega) hk; omega
  refine ⟨(nd l k).kind.toNat, ((nd l k).par + 1).toNat, ?_, by omega, by omega⟩
  rw [show (((nd l k).kind.toNat : Nat) : Int) = (nd l k).kind from by omega, show ((((nd l k).par + 1).toNat : Nat) : Int) - 1 = (nd l k).par from by omega]
theorem encN_cells (a c : Nat) (b : Bool) (ha : a ≤ 4) (hc : c ≤ 8) : cellsB (encN ⟨(a : Int), (c : Int) - 1, b⟩) = [.int .u8 (a : Int), .int .u8 (c : Int), .int .u8 (if b then 1 else 0)] := by
  unfold encN cellsB
  simp only [List.map_cons, List.map_nil, Int.toNat_natCast, show ((c : Int) - 1 + 1).toNat = c from by omega]
  rw [show (((UInt8.ofNat a).toNat : Nat) : Int) = (a : Int) from by simp; omega, show (((UInt8.ofNat c).toNat : Nat) : Int) = (c : Int) from by simp; omega]
  cases b <;> rfl

set_option maxRecDepth 20000 in
set_option maxHeartbeats 1600000 in
theorem putY (x : Addr) (cap : Nat) (l : List Nd) (w : World) (hl : Lies w x l) (hm : may l = true) :
    Calls Try.prog 10 #[.agg #[.slice (some x) l.length cap]] w fun r w' => r = .returned (.tuple #[.string ⟨(enc l).toArray⟩, .int .i64 0]) ∧ Below w.heap.size w w' := by
  obtain ⟨i5, hi, hz0, hz1, hz2⟩ := info_parts info5
  have HM : Hid (may l = true) := hm
  have HMay : Hid (May l) := may_of hm
  have h8 := (may_of hm).most
  have h1 := (may_of hm).one
  have HT : Hid (IsT w (some x) l) := ⟨by unfold maxLen; omega, .inr ⟨x, rfl, hl⟩⟩
  have HL : Hid (Lies w x l) := hl
  clear hl hm
  go_enter Try.func10, Try.ntmps10
  go_wp2_with fail
  obtain ⟨wb, eb, hsb, hcb, hbb⟩ := boxed w (.slice (some x) l.length cap) 24
  rw [eb]
  clear eb
  refine (refMay (some x) cap l wb (HT.out.later hbb)).mono ?_
  rintro e w1 ⟨rfl, hb1⟩
  rw [HM.out]
  have hc1 := cell_later hb1 hcb
  have hB1 := bel hbb hb1
  have HL1 : Hid (Lies w1 x l) := HL.out.later hB1
  have hmod : (l.length : Int) % 256 = (l.length : Int) := by omega
  clear hcb hbb hb1 HT HL
  go_wp2_with fail
  have hown0 : (w1.alloc (Obj.cells #[.int .u8 (l.length : Int)] 5)).ownsRow w1.heap.size 5 1 (.slice (some ⟨w1.heap.size, 0, none⟩) 1 1) 1 (cellsB (encTo l 0)) := by
    have := World.ownsRow_lit (base := w1.heap.size) (e := 5) (size := 1) w1 #[.int .u8 (l.length : Int)] 1 (Nat.le_refl _) (by unfold maxLen; omega) rfl
    have e : cellsB (encTo l 0) = [.int .u8 (l.length : Int)] := by
      show [Value.int .u8 (((UInt8.ofNat l.length).toNat : Nat) : Int)] = _
      rw [show (((UInt8.ofNat l.length).toNat : Nat) : Int) = (l.length : Int) from by simp; omega]
    rw [e]
    exact this
  have hbl0 : Below w1.heap.size w1 (w1.alloc (Obj.cells #[.int .u8 (l.length : Int)] 5)) := (Below.refl _ _).alloc (Nat.le_refl _) _
  go_loopw [4, 5] (fun v t wr => ∃ (k : Nat) (o : Option Addr) (c : Nat), k ≤ l.length ∧ t = .int .i64 (k : Int) ∧ v = .slice o (1 + 3 * k) c ∧ wr.ownsRow w1.heap.size 5 1 (.slice o (1 + 3 * k) c) (1 + 3 * k) (cellsB (encTo l k)) ∧ Below w1.heap.size w1 wr) (fun _ t _ => l.length - (intOf t).toNat)
  case atStart => exact ⟨0, _, _, Nat.zero_le _, rfl, rfl, hown0, hbl0⟩
  case round =>
    obtain ⟨k, o, c, hk, rfl, rfl, hown, hbl⟩ := hrel
    have hc2 := cell_later hbl hc1
    have hl2 := HL1.out.later hbl
    clear hown0 hbl0
    by_cases hlt : k < l.length
    · have hp := hl2.par' k hlt
      have hq := hl2.kind' k hlt
      have hr := hl2.null' k hlt
      obtain ⟨a, d, hn, ha, hd⟩ := may_nums HMay.out hlt
      generalize (nd l k).null = b at *
      have HE : Hid (cellsB (encTo l (k + 1)) = cellsB (encTo l k) ++ [.int .u8 (a : Int), .int .u8 (d : Int), .int .u8 (if b then 1 else 0)]) := by
        unfold Hid
        rw [encTo, cellsB_app, hn, encN_cells a d b ha hd]
      rw [hn] at hp hq
      simp only at hp hq
      have ha1 : (a : Int) % 256 = (a : Int) := by omega
      have hd1 : (d : Int) % 256 = (d : Int) := by omega
      clear hl2 hn
      generalize cellsB (encTo l k) = q at *
      cases b
      · have HE2 := HE.out
        simp only [if_false, Bool.false_eq_true] at HE2
        have HE3 : Hid (cellsB (encTo l (k + 1)) = q ++ [.int .u8 (a : Int), .int .u8 (d : Int), .int .u8 0]) := HE2
        clear HE HE2
        go_wp2_with (at_builtin; refine wpList_append_own _ rfl (.tmp 30) (.tmp 39) 48 rfl w1.heap.size 5 i5 (.int .u8 0) 1 1 Try.underlying48 hi hz0 hz1 hz2 rfl (by decide) _ (1 + 3 * k) _ rfl ((hown.alloc _).alloc _) ⟨wr.heap.size + 1, 0, none⟩ 3 3 [.int .u8 (a : Int), .int .u8 (d : Int), .int .u8 0] rfl rfl ?c1 ?c2 ?c3 ?c4 ?c5 ?_)
        case c1 =>
          intro j u hj
          match j, hj with
          | 0, hj => simp at hj; subst hj; simp [Addr.add]
          | 1, hj => simp at hj; subst hj; simp [Addr.add]
          | 2, hj => simp at hj; subst hj; simp [Addr.add]
        case c2 => intro u hu; simp at hu; rcases hu with rfl | rfl | rfl <;> rfl
        case c3 => unfold maxLen; omega
        case c4 => omega
        case c5 => have := hbl.size; simp; omega
        intro v' w3 hown' hgrow _
        have hb3 : Below w1.heap.size w1 w3 := ((hbl.alloc hbl.size _).alloc (by have := hbl.size; simp; omega) _).grown hgrow (by have := hbl.size; simp; omega) (fun j hj => (hown.lt j hj).1)
        have hown3 : w3.ownsRow w1.heap.size 5 1 v' (1 + 3 * (k + 1)) (cellsB (encTo l (k + 1))) := by
          rw [HE3.out]
          exact hown'
        obtain ⟨o3, c3, rfl⟩ := own_slice hown3
        clear hown hgrow hbl hown'
        go_wp2
        go_roundw
        case rel => exact ⟨k + 1, o3, c3, by omega, by go_num, rfl, hown3, hb3⟩
        case measure => simp [intOf]; omega
      · have HE2 := HE.out
        simp only [if_true] at HE2
        have HE3 : Hid (cellsB (encTo l (k + 1)) = q ++ [.int .u8 (a : Int), .int .u8 (d : Int), .int .u8 1]) := HE2
        clear HE HE2
        go_wp2_with (at_builtin; refine wpList_append_own _ rfl (.tmp 30) (.tmp 39) 48 rfl w1.heap.size 5 i5 (.int .u8 0) 1 1 Try.underlying48 hi hz0 hz1 hz2 rfl (by decide) _ (1 + 3 * k) _ rfl ((hown.alloc _).alloc _) ⟨wr.heap.size + 1, 0, none⟩ 3 3 [.int .u8 (a : Int), .int .u8 (d : Int), .int .u8 1] rfl rfl ?c1 ?c2 ?c3 ?c4 ?c5 ?_)
        case c1 =>
          intro j u hj
          match j, hj with
          | 0, hj => simp at hj; subst hj; simp [Addr.add]
          | 1, hj => simp at hj; subst hj; simp [Addr.add]
          | 2, hj => simp at hj; subst hj; simp [Addr.add]
        case c2 => intro u hu; simp at hu; rcases hu with rfl | rfl | rfl <;> rfl
        case c3 => unfold maxLen; omega
        case c4 => omega
        case c5 => have := hbl.size; simp; omega
        intro v' w3 hown' hgrow _
        have hb3 : Below w1.heap.size w1 w3 := ((hbl.alloc hbl.size _).alloc (by have := hbl.size; simp; omega) _).grown hgrow (by have := hbl.size; simp; omega) (fun j hj => (hown.lt j hj).1)
        have hown3 : w3.ownsRow w1.heap.size 5 1 v' (1 + 3 * (k + 1)) (cellsB (encTo l (k + 1))) := by
          rw [HE3.out]
          exact hown'
        obtain ⟨o3, c3, rfl⟩ := own_slice hown3
        clear hown hgrow hbl hown'
        go_wp2
        go_roundw
        case rel => exact ⟨k + 1, o3, c3, by omega, by go_num, rfl, hown3, hb3⟩
        case measure => simp [intOf]; omega
    · obtain rfl : k = l.length := by omega
      have hbk := own_text hown (by omega)
      rw [show encTo l l.length = enc l from rfl] at hbk
      clear hown
      go_wp2
      go_ret2
      exact ⟨rfl, bel hB1 hbl⟩
set_option maxRecDepth 20000 in
set_option maxHeartbeats 800000 in
theorem putN (a : Option Addr) (cap : Nat) (l : List Nd) (w : World) (h : IsT w a l) (hm : may l = false) :
    Calls Try.prog 10 #[.agg #[.slice a l.length cap]] w fun r w' => r = .returned (.tuple #[.string ⟨#[]⟩, .int .i64 600]) ∧ Below w.heap.size w w' := by
  have HM : Hid (may l = false) := hm
  clear hm
  have hb : Below w.heap.size w (w.alloc (Obj.cells #[.slice a l.length cap] 24)) := (Below.refl _ _).alloc (Nat.le_refl _) _
  go_enter Try.func10, Try.ntmps10
  go_wp2_with fail
  refine (refMay a cap l _ (h.later hb)).mono ?_
  rintro e w1 ⟨rfl, hb1⟩
  rw [HM.out]
  go_wp2
  go_ret2
  exact ⟨rfl, bel hb hb1⟩
end Go.Proofs.Ytnnbeicfbcgcbaa.Tree
