/-
  Several texts in one: The bits of values that are there: the document's valid: contract. · A node's zero: the document's zero: contract. · What is built, value by value: plain facts. · Blocks that alone may turn; rows of texts that grow, each in a block of its own. Over whatever program. · An array of values, by the document: its build, what it stands on: contract.
-/
import Derived.Test.YthbjeedmhgnnaaaGreatB19
import Derived.Test.YthbjeedmhgnnaaaGreatB14
import Derived.Test.YthbjeedmhgnnaaaGreatB15
import Derived.Maps.AppendAt
import Derived.OneCell
import Derived.Laws.OwnMore
import Derived.WalkKit
import Derived.ProofKit
import Derived.Below
import Derived.OwnWalk
import Derived.Test.YthbjeedmhgnnaaaGreatB13
import Derived.Test.YthbjeedmhgnnaaaGreatB17
import Derived.Test.YthbjeedmhgnnaaaGreatB16
import Derived.Test.YthbjeedmhgnnaaaGreatB04
import Derived.Deep.CutRange
import Derived.Deep.CutBlock
namespace Go.Proofs.YthbjeedmhgnnaaaGreat.Arr
open Go.ChangeShapes Go.WideShapes Go.ChangeAt Go.RowKit
open Tree Val

/-- Is a text not nothing's? -/
def isOn (s : ByteArray) : Bool := decide (bl s ≠ nullM)
theorem on_walk (s : ByteArray) : (s.toList == [110]) = !isOn s := by
  unfold isOn
  rw [ByteArray.toList_eq]
  by_cases c : bl s = nullM
  · rw [show s.data.toList = nullM from c, decide_eq_false (by simp [c])]
    rfl
  · rw [decide_eq_true c]
    exact beq_eq_false_iff_ne.2 c
def onTo (ss : List ByteArray) (k : Nat) : List Value := (ss.take k).map fun s => .bool (isOn s)
theorem ofTo_same (bs : List Bool) : ∀ k, Bit.ofTo bs k = Sums.ofTo bs k := by
  intro k
  induction k with
  | zero => rfl
  | succ k ih => rw [Bit.ofTo, Sums.ofTo, ih]
set_option maxRecDepth 20000 in
set_option maxHeartbeats 1600000 in
theorem validR (o : Option Addr) (cap : Nat) (ss : List ByteArray) (hn : ss.length ≤ 4096) (w : World) (h : Hid (Texts.IsTx w o ss)) :
    Calls Tryz.prog 51 #[.slice o ss.length cap] w fun r w' => r = .returned (.string (mk (validOf (ss.map bl)))) ∧ Below w.heap.size w w' := by
  obtain ⟨i4, hi, hz0, hz1, hz2⟩ := info_parts Bit.info4
  go_enter Tryz.func51, Tryz.ntmps51
  go_wp2_with fail
  go_loopw [3, 4, 5] (fun v al t wr => ∃ (k : Nat) (ov : Option Addr) (cv : Nat), k ≤ ss.length ∧ t = .int .i64 (k : Int) ∧ v = .slice ov k cv ∧ al = .bool ((ss.take k).all isOn) ∧ wr.ownsRow w.heap.size 4 1 (.slice ov k cv) k (onTo ss k) ∧ Below w.heap.size w wr) (fun _ _ t _ => ss.length - (intOf t).toNat)
  case atStart => exact ⟨0, none, 0, Nat.zero_le _, rfl, rfl, by simp, by simpa [onTo] using World.ownsRow_nil w w.heap.size 4 1, Below.refl _ _⟩
  case round =>
    obtain ⟨k, ov, cv, hk, rfl, rfl, rfl, hown, hbl⟩ := hrel
    have HOWN : Hid (wr.ownsRow w.heap.size 4 1 (.slice ov k cv) k (onTo ss k)) := hown
    have BL : Hid (Below w.heap.size w wr) := hbl
    clear hown hbl
    by_cases hlt : k < ss.length
    · obtain ⟨x, rfl, hl⟩ := tx_at h.out (by omega)
      have HS0 : Hid (w.cell? (x.add k) = some (.string (ss.getD k ByteArray.empty))) := hl k hlt
      have hs := cell_later BL.out (hl k hlt)
      have i0 : (0 : Int) ≤ (k : Int) := Int.natCast_nonneg _
      have i1 : (k : Int) < ((ss.length : Nat) : Int) := by omega
      generalize hsk : ss.getD k ByteArray.empty = s at *
      have hz := BL.out.size
      have hown := HOWN.out
      have HW := on_walk s
      have e2 : ss.take (k + 1) = ss.take k ++ [s] := by
        rw [List.take_add_one, List.getElem?_eq_getElem hlt, Option.toList_some, ← hsk, List.getD_eq_getElem?_getD, List.getElem?_eq_getElem hlt, Option.getD_some]
      have HT1 : Hid (onTo ss (k + 1) = onTo ss k ++ [.bool (isOn s)]) := by unfold Hid onTo; rw [e2]; simp
      have HT2 : Hid ((ss.take (k + 1)).all isOn = ((ss.take k).all isOn && isOn s)) := by unfold Hid; rw [e2]; simp
      clear e2 hsk hl
      generalize (ss.take k).all isOn = A at *
      generalize isOn s = b at *
      go_wp2_with (at_builtin; refine wpList_append_own _ rfl (.tmp 12) (.tmp 18) 85 rfl w.heap.size 4 i4 (.bool false) 1 1 Tryz.underlying85 hi hz0 hz1 hz2 rfl (by decide) _ k _ rfl (hown.alloc _) ⟨wr.heap.size, 0, none⟩ 1 1 [.bool b] rfl rfl ?c1 ?c2 ?c3 ?c4 ?c5 ?_)
      case c1 =>
        intro j u hj
        match j, hj with
        | 0, hj => simp at hj; subst hj; simp [Addr.add]
      case c2 => intro u hu; simp at hu; subst hu; rfl
      case c3 => unfold maxLen; omega
      case c4 => omega
      case c5 => simp; omega
      intro u6 w6 hown6 hgrow _
      have B6 : Hid (Below w.heap.size w w6) := (BL.out.alloc hz _).grown hgrow (by simp; omega) (fun j hj => (hown.lt j hj).1)
      obtain ⟨o6, c6, rfl⟩ := ownsRow_len hown6
      have HO6 : Hid (w6.ownsRow w.heap.size 4 1 (.slice o6 (k + 1) c6) (k + 1) (onTo ss (k + 1))) := by
        unfold Hid
        rw [HT1.out]
        exact hown6
      clear hown6 hgrow hown hs HT1 HOWN
      have hs6 := cell_later B6.out HS0.out
      cases A
      · go_wp2
        go_roundw
        case rel => exact ⟨k + 1, o6, c6, by omega, by go_num, rfl, by rw [HT2.out]; rfl, HO6.out, B6.out⟩
        case measure => simp [intOf]; omega
      · go_wp2
        go_roundw
        case rel => exact ⟨k + 1, o6, c6, by omega, by go_num, rfl, by rw [HT2.out]; simp, HO6.out, B6.out⟩
        case measure => simp [intOf]; omega
    · obtain rfl : k = ss.length := by omega
      have HV : Hid (validOf (ss.map bl) = if ss.all isOn = true then [] else Sums.bitsOf (ss.map isOn)) := by
        unfold Hid validOf
        rw [List.all_map, List.map_map]
        rfl
      rw [List.take_length]
      have HO : Hid (wr.ownsRow w.heap.size 4 1 (.slice ov ss.length cv) ss.length ((ss.map isOn).map Value.bool)) := by
        have := HOWN.out
        unfold onTo at this
        rw [List.take_length] at this
        unfold Hid
        rw [List.map_map]
        exact this
      clear HOWN
      cases hA : ss.all isOn
      · rw [hA] at HV
        rcases HO.out.2 with ⟨e, e0⟩ | ⟨g, cp, cur, e, hg0, hg, hle, hm, hsz, hx⟩
        · have : ss = [] := List.length_eq_zero_iff.1 e0
          rw [this] at hA
          cases hA
        · injection e with e1 e2 e3
          subst e1 e3
          have HB : Hid (Calls Tryz.prog 55 #[.slice (some ⟨g, 0, none⟩) ss.length cv] wr fun r w' => r = .returned (.string ⟨(Bit.ofTo (ss.map isOn) ss.length).toArray⟩) ∧ Below wr.heap.size wr w') := by
            have := Bit.bitsOf g cv (ss.map isOn) wr (by rw [List.length_map]; omega) (Array.getElem?_eq_some_iff.1 hg).1 (fun i hi => by
              rw [List.length_map] at hi
              have e4 : (cur.toList.take (ss.length * 1))[i]? = ((ss.map isOn).map Value.bool)[i]? := by rw [hx]
              rw [List.getElem?_take, if_pos (by omega)] at e4
              simp only [World.cell?, hg]
              rw [show cur[i]? = cur.toList[i]? from by simp, e4]
              simp [List.getD_eq_getElem?_getD, hi])
            rw [List.length_map] at this
            exact this
          clear hx hg hsz
          go_wp2_with fail
          refine HB.out.mono ?_
          rintro e w7 ⟨rfl, b7⟩
          have B7 : Hid (Below w.heap.size w w7) := bel2 BL.out b7
          clear b7
          go_wp2
          go_ret
          refine ⟨ret_str ?_, B7.out⟩
          rw [HV.out, if_neg (by simp)]
          show _ = mk (Sums.ofTo (ss.map isOn) (ss.map isOn).length)
          rw [List.length_map]
          exact congrArg mk (ofTo_same _ _)
      · have HV2 : Hid (validOf (ss.map bl) = []) := by unfold Hid; rw [HV.out, hA, if_pos rfl]
        go_wp2
        go_ret
        exact ⟨ret_str (by rw [HV2.out]; rfl), BL.out⟩
end Go.Proofs.YthbjeedmhgnnaaaGreat.Arr
set_option linter.unusedVariables false
set_option linter.unusedSimpArgs false
namespace Go.Proofs.YthbjeedmhgnnaaaGreat.Arr
open Go.ChangeShapes Go.WideShapes Go.ChangeAt Go.RowKit
open Tree Val

end Go.Proofs.YthbjeedmhgnnaaaGreat.Arr
namespace Go.Proofs.YthbjeedmhgnnaaaGreat.Arr
open Tree Val Sums

theorem endsOf_none {ns : List Nd} {n : Nat} (h2 : (nd ns n).kind ≠ 2) (h3 : (nd ns n).kind ≠ 3) (vs : List (List UInt8)) : endsOf ns n vs = [] := by
  unfold endsOf
  rw [if_neg (by omega)]
theorem data0_snoc {ns : List Nd} {n : Nat} (hk : (nd ns n).kind = 0) (vs : List (List UInt8)) (v : List UInt8) : dataOf ns n (vs ++ [v]) = dataOf ns n vs ++ Plain.low (wrapN (intV v)) 8 := by
  unfold dataOf
  rw [if_pos hk, if_pos hk]
  simp
theorem length_data0 {ns : List Nd} {n : Nat} (hk : (nd ns n).kind = 0) : ∀ vs : List (List UInt8), (dataOf ns n vs).length = 8 * vs.length := by
  intro vs
  unfold dataOf
  rw [if_pos hk, length_all (fun v => Plain.low (wrapN (intV v)) 8) [], sumTo_congr (h := fun _ => 8) _ (fun j _ => Plain.length_low _ _), sumTo_const]
theorem take_snoc (vs : List (List UInt8)) {k : Nat} (h : k < vs.length) : vs.take (k + 1) = vs.take k ++ [vs.getD k []] := by
  rw [List.take_add_one, List.getElem?_eq_getElem h, Option.toList_some, List.getD_eq_getElem?_getD, List.getElem?_eq_getElem h, Option.getD_some]
/-- A value that fits is told apart. -/
theorem tell_fit {ns : List Nd} {g n : Nat} {v : List UInt8} (h : fitsF ns (g + 1) n (mk v) = true) : partsS (mk v) = some ((tellV v).1, (tellV v).2.map mk) := by
  rcases fits_inv h with ⟨rfl, _⟩ | ⟨ps, hF⟩
  · rw [tell_null, partsS, mk, bl_mk, parts_null]
    rfl
  · rw [hF.tellV, partsS, mk, bl_mk, hF.tell]
    rfl
/-- The four ways of what fits. -/
structure FitV (ns : List Nd) (n : Nat) (v : List UInt8) : Prop where
  kind : (tellV v).1 = -1 ∧ (tellV v).2 = [] ∧ v = nullM ∨ (tellV v).1 = (nd ns n).kind ∧ v ≠ nullM
  int : (nd ns n).kind = 0 → (tellV v).1 = 0 → ∃ x, in64 x ∧ (tellV v).2 = [intD x] ∧ intV v = x
  bool : (nd ns n).kind = 1 → v = nullM ∨ ∃ b, v = boolM b
  bytes : (nd ns n).kind = 2 → (tellV v).2.flatten.length ≤ 16 ∧ (tellV v).2.length ≤ 1
  list : (nd ns n).kind = 3 → (tellV v).2.length ≤ 64
  struct : (nd ns n).kind = 4 → 0 ≤ (tellV v).1 → (tellV v).2.length = (kids ns n).length
theorem fitV {ns : List Nd} (hm : May ns) {g n : Nat} (hn : n < ns.length) {v : List UInt8} (h : fitsF ns (g + 1) n (mk v) = true) : FitV ns n v := by
  rcases fits_inv h with ⟨rfl, _⟩ | ⟨ps, hF⟩
  · have e := tell_null
    refine ⟨.inl ⟨by rw [e], by rw [e], rfl⟩, fun _ c => ?_, fun _ => .inl rfl, fun _ => ?_, fun _ => ?_, fun _ c => ?_⟩
    · rw [e] at c; cases c
    · rw [e]; exact ⟨Nat.zero_le _, Nat.zero_le _⟩
    · rw [e]; exact Nat.zero_le _
    · rw [e] at c; exact absurd c (by decide)
  · have e := hF.tellV
    have hM := hF.made
    refine ⟨.inr ⟨by rw [e], hF.ne_null hm hn⟩, fun hk _ => ?_, fun hk => ?_, fun hk => ?_, fun hk => ?_, fun hk _ => ?_⟩
    · rw [hk] at hM
      obtain ⟨x, hx, hps, hv⟩ := made_int hM
      refine ⟨x, hx, by rw [e, hps], ?_⟩
      unfold intV
      rw [e, hps]
      simp only
      rw [if_neg (by omega), List.getD_cons_zero, numOf_intD x hx]
      rfl
    · rw [hk] at hM
      exact .inr (made_bool hM)
    · rw [hk] at hM
      obtain ⟨s, hps, _⟩ := made_bytes hM
      have := hF.bytes hk
      rw [hps, List.getD_cons_zero] at this
      rw [e, hps]
      simp only [List.flatten_cons, List.flatten_nil, List.append_nil, List.length_cons, List.length_nil]
      omega
    · rw [e]
      exact (hF.list hk).1
    · rw [e]
      exact (hF.struct hk).1
end Go.Proofs.YthbjeedmhgnnaaaGreat.Arr
namespace Go.Proofs.YthbjeedmhgnnaaaGreat.Arr
open Go.ChangeShapes Go.WideShapes Go.ChangeAt Go.RowKit

/-- Of the blocks of a world only these may have turned. -/
structure Kept (S : Nat → Prop) (w w' : World) : Prop where
  os : w'.os = w.os
  tape : w'.tape = w.tape
  output : w'.output = w.output
  size : w.heap.size ≤ w'.heap.size
  block : ∀ k, k < w.heap.size → ¬ S k → w'.heap[k]? = w.heap[k]?
theorem Kept.refl (S : Nat → Prop) (w : World) : Kept S w w := ⟨rfl, rfl, rfl, Nat.le_refl _, fun _ _ _ => rfl⟩
theorem Kept.below {S : Nat → Prop} {w w1 w2 : World} (h : Kept S w w1) (hb : Below w1.heap.size w1 w2) : Kept S w w2 :=
  ⟨hb.os.trans h.os, hb.tape.trans h.tape, hb.output.trans h.output, Nat.le_trans h.size hb.size, fun k hk hs => (hb.block k (Nat.lt_of_lt_of_le hk h.size)).trans (h.block k hk hs)⟩
theorem Kept.grown {S : Nat → Prop} {w w1 w2 : World} (h : Kept S w w1) {row : Option Nat} (hg : w1.grownBy w2 row) (hr : ∀ k, row = some k → S k ∨ w.heap.size ≤ k) : Kept S w w2 :=
  ⟨hg.os.trans h.os, hg.tape.trans h.tape, hg.output.trans h.output, Nat.le_trans h.size hg.size, fun k hk hs => (hg.block k (Nat.lt_of_lt_of_le hk h.size) (fun c => by
    rcases hr k c.symm with c | c
    · exact hs c
    · omega)).trans (h.block k hk hs)⟩
theorem Kept.set {S : Nat → Prop} {w w1 : World} (h : Kept S w w1) {p : Addr} (hp : S p.block) (u : Value) : Kept S w (w1.setCell p u) :=
  ⟨h.os, h.tape, h.output, by have := h.size; simpa [World.setCell] using this, fun k hk hs => (Below.heap_setCell w1 p u k (fun c => hs (c ▸ hp))).trans (h.block k hk hs)⟩
theorem Kept.cell {S : Nat → Prop} {w w1 : World} (h : Kept S w w1) {p : Addr} {v : Value} (hv : w.cell? p = some v) (hp : ¬ S p.block) : w1.cell? p = some v :=
  (World.cell?_of_block (w := w) (h.block p.block (World.block_lt_of_cell? _ _ hv) hp)).trans hv
theorem Kept.down {S : Nat → Prop} {w w1 : World} (h : Kept S w w1) {b : World} (hb : Below b.heap.size b w) (hs : ∀ k, S k → b.heap.size ≤ k) : Below b.heap.size b w1 :=
  ⟨h.os.trans hb.os, h.tape.trans hb.tape, h.output.trans hb.output, Nat.le_trans hb.size h.size, fun k hk => (h.block k (Nat.lt_of_lt_of_le hk hb.size) (fun c => by have := hs k c; omega)).trans (hb.block k hk)⟩
theorem Kept.heap {S : Nat → Prop} {w w1 : World} (h : Kept S w w1) {k : Nat} {o : Obj} (hk : w.heap[k]? = some o) (hs : ¬ S k) : w1.heap[k]? = some o :=
  (h.block k (Array.getElem?_eq_some_iff.1 hk).1 hs).trans hk
theorem Kept.row {S : Nat → Prop} {w w1 : World} (h : Kept S w w1) {base n : Nat} {e : TypeId} {k : Nat} {v : Value} {xs : List Value} (hw : w.ownsRow base e k v n xs) (hs : ∀ g, v.ownBlock = some g → ¬ S g) : w1.ownsRow base e k v n xs := by
  refine ⟨hw.1, hw.2.imp id ?_⟩
  rintro ⟨g, cap, cur, rfl, e2, e3, e4⟩
  exact ⟨g, cap, cur, rfl, e2, h.heap e3 (hs g rfl), e4⟩
theorem row_later {w w' : World} {base n : Nat} {e : TypeId} {k : Nat} {v : Value} {xs : List Value} (h : w.ownsRow base e k v n xs) (hb : Below w.heap.size w w') : w'.ownsRow base e k v n xs := by
  refine ⟨h.1, h.2.imp id ?_⟩
  rintro ⟨g, cap, cur, e1, e2, e3, e4⟩
  exact ⟨g, cap, cur, e1, e2, (hb.block g (Array.getElem?_eq_some_iff.1 e3).1).trans e3, e4⟩
/-- Rows of texts that grow; where each is stands in a block. T: a list's type; E: a text's. -/
structure RowsIn (T E : TypeId) (w : World) (R b0 : Nat) (cur : Array Value) (L : List (List ByteArray)) : Prop where
  low : R < b0
  blk : w.heap[R]? = some (.cells cur T (0, 0))
  len : cur.size = L.length
  row : ∀ j, j < L.length → ∃ o c, cur[j]? = some (.slice o (L.getD j []).length c) ∧ w.ownsRow b0 E 1 (.slice o (L.getD j []).length c) (L.getD j []).length (Texts.cellsT (L.getD j []))
  apart : ∀ (i j : Nat) (u v : Value), i ≠ j → cur[i]? = some u → cur[j]? = some v → u.ownBlock ≠ none → u.ownBlock ≠ v.ownBlock
theorem RowsIn.later {T E : TypeId} {w w' : World} {R b0 : Nat} {cur : Array Value} {L : List (List ByteArray)} (h : RowsIn T E w R b0 cur L) (hb : Below w.heap.size w w') : RowsIn T E w' R b0 cur L :=
  ⟨h.low, (hb.block R (Array.getElem?_eq_some_iff.1 h.blk).1).trans h.blk, h.len, fun j hj => by
    obtain ⟨o, c, e, e2⟩ := h.row j hj
    exact ⟨o, c, e, row_later e2 hb⟩, h.apart⟩
theorem RowsIn.kept {T E : TypeId} {S : Nat → Prop} {w w' : World} {R b0 : Nat} {cur : Array Value} {L : List (List ByteArray)} (h : RowsIn T E w R b0 cur L) (hb : Kept S w w') (hs : ∀ k, S k → k < b0 ∧ k ≠ R) : RowsIn T E w' R b0 cur L :=
  ⟨h.low, hb.heap h.blk (fun c => (hs R c).2 rfl), h.len, fun j hj => by
    obtain ⟨o, c, e, e2⟩ := h.row j hj
    exact ⟨o, c, e, hb.row e2 (fun g hg c => by have := (hs g c).1; have := (e2.lt g hg).1; omega)⟩, h.apart⟩
theorem RowsIn.cell {T E : TypeId} {w : World} {R b0 : Nat} {cur : Array Value} {L : List (List ByteArray)} (h : RowsIn T E w R b0 cur L) {j : Nat} (hj : j < L.length) :
    ∃ o c, w.cell? ⟨R, j, none⟩ = some (.slice o (L.getD j []).length c) ∧ w.ownsRow b0 E 1 (.slice o (L.getD j []).length c) (L.getD j []).length (Texts.cellsT (L.getD j [])) := by
  obtain ⟨o, c, e, e2⟩ := h.row j hj
  exact ⟨o, c, by simp [World.cell?, h.blk, e], e2⟩
theorem RowsIn.fz {T E : TypeId} {w : World} {R b0 : Nat} {cur : Array Value} {L : List (List ByteArray)} (h : RowsIn T E w R b0 cur L) (j : Nat) : w.frozen? ⟨R, j, none⟩ = false := by
  simp [World.frozen?, h.blk]
end Go.Proofs.YthbjeedmhgnnaaaGreat.Arr
set_option linter.unusedVariables false
set_option linter.unusedSimpArgs false
namespace Go.Proofs.YthbjeedmhgnnaaaGreat.Arr
open Go.ChangeShapes Go.WideShapes Go.ChangeAt Go.RowKit
open Tree Val

/-- A field of an array's box, written over. -/
theorem Bx.set5 {w : World} {g : Nat} {a : Arr} {o : Option Addr} {cap : Nat} (h : Bx w g a o cap) (s : ByteArray) : ∃ w', w.setCell ⟨g, 5, none⟩ (.string s) = w' ∧ Bx w' g { a with data := s } o cap ∧ (∀ (S : Nat → Prop) (w0 : World), S g → Kept S w0 w → Kept S w0 w') ∧ (∀ b, b ≠ g → w'.heap[b]? = w.heap[b]?) :=
  ⟨_, rfl, ⟨by rw [blk_set h.blk 5]; rfl⟩, fun S w0 hS hk => hk.set hS _, fun b hb => Below.heap_setCell _ _ _ _ hb⟩
theorem info38 : (Tryz.prog.info? 33).map (fun i => (i.zero, i.size, i.bytes)) = some (some (.slice none 0 0), 1, 24) := by kernel_rfl
/-- The rows that are made. -/
theorem make_rows (n : Nat) (h : n ≤ 4096) (w : World) : ∃ cur, (Instr.makeSlice 84 (.int .i64 (n : Int)) (.int .i64 (n : Int))).run Tryz.prog w = .ok (.slice (some ⟨w.heap.size, 0, none⟩) n n) (w.alloc (.cells cur 33)) ∧ cur.size = n ∧ ∀ (j : Nat) (u : Value), cur[j]? = some u → u = .slice none 0 0 := by
  obtain ⟨i, hi, hz0, hz1, hz2⟩ := info_parts info38
  have := run_make (P := Tryz.prog) w 84 33 i (.slice none 0 0) Tryz.underlying84 hi hz0 .i64 .i64 n n (by omega) (Int.le_refl _) (by rw [hz2]; omega) (by omega)
  rw [this, hz1, Nat.mul_one, Int.toNat_natCast]
  refine ⟨_, rfl, by simp [madeCells], fun j u hu => ?_⟩
  have hj := (Array.getElem?_eq_some_iff.1 hu).1
  simp [madeCells] at hu hj
  obtain ⟨q, _, rfl⟩ := hu
  simp [Value.cells, Nat.mod_one]
/-- What the document's build answers. -/
def BuildG (B f : Nat) (bf : Option Arr) (w : World) (r : Ending) (w' : World) : Prop :=
  ∃ (X : Arr) (o' : Option Addr) (c' : Nat), r = .returned (.tuple #[X.val o' c', .bool bf.isSome]) ∧ Below w.heap.size w w' ∧ (bf.isSome = true → bf = some X ∧ HoldsO B w' f (fun b => w.heap.size ≤ b) (X.cells o' c') X)
def BuildQ (B f : Nat) (ns : List Nd) (n : Nat) (V : List (List UInt8)) (w : World) (r : Ending) (w' : World) : Prop := BuildG B f (buildF ns f n V) w r w'
/-- A value of whole numbers that fits, taken apart. -/
theorem int_at {ns : List Nd} (hm : May ns) {g n : Nat} (hn : n < ns.length) (hk : (nd ns n).kind = 0) {s : ByteArray} (h : fitsF ns (g + 1) n s = true) : (TellA s (-1) [] 0 ∧ intV (bl s) = 0) ∨ ∃ x, in64 x ∧ TellA s 0 [mk (intD x)] 0 ∧ intV (bl s) = x ∧ numOf (bl (mk (intD x))) = some x ∧ (mk (intD x)).size ≤ 65536 := by
  have hb : mk (bl s) = s := mk_of s
  have hT := tell_fit (v := bl s) (by rw [hb]; exact h)
  have hV := fitV hm hn (v := bl s) (by rw [hb]; exact h)
  rw [hb] at hT
  rcases hV.kind with ⟨h1, h2, h3⟩ | ⟨h1, h2⟩
  · rw [h1, h2] at hT
    refine .inl ⟨.inl ⟨hT, rfl⟩, ?_⟩
    unfold intV
    rw [h1, if_pos (by decide)]
  · rw [hk] at h1
    obtain ⟨x, hx, hp, hi⟩ := hV.int hk h1
    rw [h1, hp] at hT
    refine .inr ⟨x, hx, .inl ⟨hT, rfl⟩, hi, ?_, ?_⟩
    · show numOf (bl ⟨(intD x).toArray⟩) = _
      rw [bl_mk, numOf_intD x hx]
    · rw [size_mk]
      have := length_intD x hx
      omega
theorem all_at {ns : List Nd} {g n : Nat} {ss : List ByteArray} (h : AllFit ns (g + 1) n (ss.map bl)) {k : Nat} (hk : k < ss.length) : fitsF ns (g + 1) n (ss.getD k ByteArray.empty) = true := by
  have hmem : ss.getD k ByteArray.empty ∈ ss := by
    rw [List.getD_eq_getElem?_getD, List.getElem?_eq_getElem hk]
    exact List.getElem_mem hk
  have := h _ (List.mem_map_of_mem hmem)
  rwa [show mk (bl (ss.getD k ByteArray.empty)) = ss.getD k ByteArray.empty from mk_of _] at this
theorem bl_at (ss : List ByteArray) {k : Nat} (hk : k < ss.length) : (ss.map bl).getD k [] = bl (ss.getD k ByteArray.empty) := by
  rw [List.getD_eq_getElem?_getD, List.getElem?_map, List.getD_eq_getElem?_getD, List.getElem?_eq_getElem hk]
  rfl
theorem app_mk (a b : List UInt8) : mk a ++ mk b = mk (a ++ b) := Val.mk_app a b
theorem wrap_wrapN (x : Int) : IntKind.u64.wrap x = ((wrapN x : Nat) : Int) := by
  unfold wrapN
  have e : IntKind.u64.wrap x = x % 18446744073709551616 := by simp [IntKind.wrap, IntKind.bits, IntKind.signed]
  rw [e]
  omega
theorem ok_built {ns : List Nd} {f n : Nat} {vs : List (List UInt8)} {a : Arr} {B : Nat} (hB : 4096 ≤ B) (h : buildF ns (f + 1) n vs = some a) : a.ok B := by
  obtain ⟨rfl, h64, _, hd, he⟩ := build_some h
  refine ⟨rfl, rfl, ?_, ?_, ?_, ?_⟩
  · have e1 : IntKind.i64.min = -9223372036854775808 := by decide
    have e2 : IntKind.i64.max = 9223372036854775807 := by decide
    unfold built
    simp only [Lit.wf, Bool.and_eq_true, decide_eq_true_eq, e1, e2]
    omega
  · show (mk (validOf vs)).size ≤ B
    rw [size_mk]
    rcases valid_len vs with c | ⟨c, _⟩ <;> omega
  · show (mk (endsOf ns n vs)).size ≤ B
    rw [size_mk]
    omega
  · show (mk (dataOf ns n vs)).size ≤ B
    rw [size_mk]
    omega
theorem holds_leaf {B : Nat} {w : World} {f : Nat} {ok : Nat → Prop} {a : Arr} (h : a.ok B) (hk : a.kids = []) : HoldsO B w (f + 1) ok (a.cells none 0) a :=
  ⟨none, 0, rfl, h, by rw [hk]; exact Nat.le_refl _, Nat.zero_le _, .inl ⟨rfl, hk, rfl⟩⟩
theorem leaf_done {B f : Nat} {ns : List Nd} {n : Nat} {V : List (List UInt8)} {w w' : World} {A : Arr} (hB : 4096 ≤ B) (h : buildF ns (f + 1) n V = some A) (hk : A.kids = []) (hb : Below w.heap.size w w') : BuildQ B (f + 1) ns n V w (.returned (.tuple #[A.val none 0, .bool true])) w' := by
  refine ⟨A, none, 0, by rw [h]; rfl, hb, fun _ => ⟨h, ?_⟩⟩
  exact holds_leaf (ok_built hB h) hk
/-- Copies stay where nothing of theirs is written. -/
theorem Copied.stays {B f : Nat} {a : Arr} {b0 k : Nat} {v : Value} {w w' : World} {css : List (List Value)} (h : Copied B f a b0 k v w css) (hb : ∀ b, b0 ≤ b → b < w.heap.size → w'.heap[b]? = w.heap[b]?) (hs : w.heap.size ≤ w'.heap.size) : Copied B f a b0 k v w' css := by
  refine ⟨h.len, ⟨h.own.1, h.own.2.imp id ?_⟩, fun i hi => ?_⟩
  · rintro ⟨g, cap, cur, e1, e2, e3, e4⟩
    exact ⟨g, cap, cur, e1, e2, (hb g e2 (Array.getElem?_eq_some_iff.1 e3).1).trans e3, e4⟩
  · obtain ⟨e1, e2⟩ := h.each i hi
    exact ⟨e1, e2.stays (fun b hb' => hb b hb'.1 hb'.2.1) (fun b hb' => ⟨hb'.1, by omega, hb'.2.2⟩)⟩
end Go.Proofs.YthbjeedmhgnnaaaGreat.Arr
