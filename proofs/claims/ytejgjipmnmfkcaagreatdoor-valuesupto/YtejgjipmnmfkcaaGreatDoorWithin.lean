/-
  The values in a list or in a struct: within: contract.
-/
import Derived.Test.YtejgjipmnmfkcaaGreatDoorMem
import Derived.Test.YtejgjipmnmfkcaaGreatDoorTk
import Derived.Test.YtejgjipmnmfkcaaGreatDoorKind
import Derived.Test.YtejgjipmnmfkcaaGreatDoorRow
import Derived.Test.YtejgjipmnmfkcaaGreatDoorTake
import Derived.Test.YtejgjipmnmfkcaaGreatDoorBehind
import Derived.Test.YtejgjipmnmfkcaaGreatDoorOnly
namespace Go.Proofs.YtejgjipmnmfkcaaGreatDoor.Val
open Go.ChangeShapes Go.WideShapes Go.ChangeAt Go.RowKit
open Tree (own_slice own_mono)

theorem info49 : (Tryz.prog.info? 46).map (fun i => (i.zero, i.size, i.bytes)) = some (some (.agg #[.int .i64 0, .string ⟨#[]⟩, .string ⟨#[]⟩]), 3, 40) := by kernel_rfl
/-- A row of one's own stands while another block is written. -/
theorem own_move {w w' : World} {b B n : Nat} {e : TypeId} {k : Nat} {v : Value} {xs : List Value} (h : w.ownsRow B e k v n xs) (hm : Mv b w w') (hb : b < B) : w'.ownsRow B e k v n xs := by
  have hlt := h.lt
  refine ⟨h.1, ?_⟩
  rcases h.2 with h | ⟨g, cap, cur, h0, h1, h2, h3⟩
  · exact .inl h
  · subst h0
    exact .inr ⟨g, cap, cur, rfl, h1, (hm.block g (hlt g rfl).2 (by omega)).trans h2, h3⟩
theorem Mv.grown {b : Nat} {u v w : World} {row : Option Nat} (h : Mv b u v) (hg : v.grownBy w row) (hr : ∀ k, row = some k → u.heap.size ≤ k) : Mv b u w :=
  ⟨hg.os.trans h.os, hg.tape.trans h.tape, hg.output.trans h.output, Nat.le_trans h.size hg.size, fun k hk hb => (hg.block k (Nat.lt_of_lt_of_le hk h.size) (fun e => by have := hr k e.symm; omega)).trans (h.block k hk hb)⟩
theorem Tk.grown {w w' : World} {b : Nat} {s : ByteArray} {p : Nat} {row : Option Nat} (h : Tk w b s p) (hg : w.grownBy w' row) (hr : ∀ k, row = some k → b < k) : Tk w' b s p :=
  ⟨(hg.block b h.lt (fun e => by have := hr b e.symm; omega)).trans h.blk⟩
set_option maxRecDepth 20000 in
set_option maxHeartbeats 1600000 in
theorem withinC (k : Int) (v c : ByteArray) (vs : List ByteArray) (hc : c.size ≤ 65536) (hr : Hid (Row4 c vs)) (w : World) (hw : Hid (Home w)) :
    Calls Tryz.prog 46 #[.agg #[.int .i64 k, .string v, .string c]] w fun r w' => ∃ o cap, r = .returned (.slice o vs.length cap) ∧ w'.ownsRow w.heap.size 46 3 (.slice o vs.length cap) vs.length (cellsK vs) ∧ Below w.heap.size w w' := by
  obtain ⟨i49, hi, hz0, hz1, hz2⟩ := info_parts info49
  have hlen : vs.length ≤ 65536 := Nat.le_trans hr.out.len hc
  obtain ⟨w1, e1, x1, b1, z1⟩ := box3 w k v c
  obtain ⟨w2, e2, t2, b2, z2⟩ := made w1 c
  have hh := hw.out.later (bel2 b1 b2)
  have H6 : Hid (6 ≤ w1.heap.size) := by have := hw.out.six; unfold Hid; omega
  have Z1 : Hid (w1.heap.size = w.heap.size + 1) := z1
  have Z2 : Hid (w2.heap.size = w1.heap.size + 1) := z2
  have E2 : Hid (w1.alloc (.cells #[.string c, .int .i64 0] 66) = w2) := e2
  have c2 := x1.c2
  have HB : Hid (Below w.heap.size w w2) := bel2 b1 b2
  have HT2 : Hid (Tk w2 w1.heap.size c 0) := t2
  have HH : Hid (Home w2) := hh
  clear z1 z2 e2 x1 t2 hh b1 b2
  go_enter Tryz.func46, Tryz.ntmps46
  go_wp2_with fail
  clear c2 e1
  rw [E2.out]
  generalize w1.heap.size = b at *
  go_loopw [3] (fun u wr => ∃ (i : Nat) (o : Option Addr) (cap : Nat), i ≤ vs.length ∧ u = .slice o i cap ∧ wr.ownsRow w2.heap.size 46 3 (.slice o i cap) i (cellsK (vs.take i)) ∧ Tk wr b c (pos vs i) ∧ Mv b w2 wr) (fun _ wr => c.size - atOf wr b)
  case atStart => exact ⟨0, none, 0, Nat.zero_le _, rfl, World.ownsRow_nil _ _ _ _, HT2.out, Mv.refl _ _⟩
  case round =>
    obtain ⟨i, o, cap, hil, rfl, hown, ht, hm⟩ := hrel
    have HM : Hid (Mv b w2 wr) := hm
    have HO : Hid (wr.ownsRow w2.heap.size 46 3 (.slice o i cap) i (cellsK (vs.take i))) := hown
    have HT : Hid (Tk wr b c (pos vs i)) := ht
    clear hm hown ht
    go_wp2_with fail
    have hcall := take_all 0 (by omega) b c (pos vs i) wr (hr.out.pos_le i) hc HT.out (HH.out.move HM.out H6.out) H6.out
    refine hcall.mono ?_
    rintro e w3 ⟨k1, v1, c1, ok, q, rfl, q1, q2, t3, m3, hok⟩
    have hown3 := own_move HO.out m3 (by have := Z2.out; omega)
    have m03 := HM.out.trans m3
    clear hcall m3
    by_cases hlt : i < vs.length
    · obtain ⟨y1, y2⟩ := hr.out.at i hlt
      have y3 := pos_succ vs i hlt
      have y4 := size_pos (hr.out.each _ (getD_memT vs i hlt))
      obtain ⟨rfl, h1, h2, h3, h4⟩ : ok = true ∧ q = pos vs (i + 1) ∧ v1 = vs.getD i ByteArray.empty ∧ k1 = kindOf (bl v1) ∧ c1 = bodyS v1 := by
        rcases hok with ⟨o1, o2, o3, o4, o5⟩ | ⟨o1, o2⟩
        · rw [show below (5 - 0) = val 4 from rfl, y1] at o2
          injection o2 with o2
          have o6 : q = pos vs (i + 1) := by omega
          refine ⟨o1, o6, ?_, o4, bodyS_eq o5⟩
          rw [o3, o6, y3, y2]
        · rw [show below (5 - 0) = val 4 from rfl, y1] at o2
          cases o2
      have HV : Hid (vs.take (i + 1) = vs.take i ++ [v1]) := by unfold Hid; rw [h2]; exact take_text vs i hlt
      have HK : Hid (k1 = kindOf (bl v1) ∧ c1 = bodyS v1) := ⟨h3, h4⟩
      have HQ : Hid (q = pos vs (i + 1)) := h1
      have HP : Hid (pos vs i < q) := by unfold Hid; omega
      have HA : Hid (atOf wr b = pos vs i) := HT.out.atOf
      obtain ⟨w4, e4, x4, b4, z4⟩ := box3 w3 k1 v1 c1
      have t4 := t3.later b4
      have m04 := m03.trans (Mv.of b4)
      have hown4 := own_move hown3 (Mv.of (b := b) b4) (by have := Z2.out; omega)
      have d0 := x4.c0
      have d1 := x4.c1
      have d2 := x4.c2
      clear hok y1 y2 y3 y4 h1 h2 h3 h4 z4 t3 m03 hown3 x4 b4 HM HO HT
      go_wp2_with (at_builtin; refine wpList_append_own _ rfl (.tmp 17) (.tmp 19) 68 rfl w2.heap.size 46 i49 (.agg #[.int .i64 0, .string ⟨#[]⟩, .string ⟨#[]⟩]) 3 40 Tryz.underlying68 hi hz0 hz1 hz2 rfl (by decide) _ i _ rfl (hown4.alloc _) ⟨w4.heap.size, 0, none⟩ 1 1 [.int .i64 k1, .string v1, .string c1] rfl rfl ?c1 ?c2 ?c3 ?c4 ?c5 ?_)
      case c1 =>
        intro j u hj
        match j, hj with
        | 0, hj => simp at hj; subst hj; simp [Addr.add]
        | 1, hj => simp at hj; subst hj; simp [Addr.add]
        | 2, hj => simp at hj; subst hj; simp [Addr.add]
      case c2 => intro u hu; simp at hu; rcases hu with rfl | rfl | rfl <;> rfl
      case c3 => unfold maxLen; omega
      case c4 => omega
      case c5 => have := m04.size; simp; omega
      intro u5 w5 hown5 hgrow _
      have b4a : Below w4.heap.size w4 (w4.alloc (.cells #[.int .i64 k1, .string v1, .string c1] 46)) := (Below.refl _ _).alloc (Nat.le_refl _) _
      have m05 := (m04.trans (Mv.of b4a)).grown hgrow (fun j hj => (hown4.lt j hj).1)
      have t5 := (t4.later b4a).grown hgrow (fun j hj => by have := (hown4.lt j hj).1; have := Z2.out; omega)
      have hown5' : w5.ownsRow w2.heap.size 46 3 u5 (i + 1) (cellsK (vs.take (i + 1))) := by
        rw [HV.out, cellsK_snoc]
        rw [HK.out.1, HK.out.2] at hown5
        exact hown5
      obtain ⟨o5, cap5, rfl⟩ := own_slice hown5'
      have H5 : Hid (w5.ownsRow w2.heap.size 46 3 (.slice o5 (i + 1) cap5) (i + 1) (cellsK (vs.take (i + 1))) ∧ Tk w5 b c q ∧ Mv b w2 w5) := ⟨hown5', t5, m05⟩
      clear hown5 hown5' hgrow t5 m05 b4a t4 m04 hown4 d0 d1 d2 e4
      go_wp2
      go_roundw
      case rel => exact ⟨i + 1, o5, cap5, by omega, rfl, H5.out.1, by rw [← HQ.out]; exact H5.out.2.1, H5.out.2.2⟩
      case measure =>
        rw [HA.out, H5.out.2.1.atOf]
        have := HP.out
        omega
    · obtain rfl : i = vs.length := by omega
      obtain rfl : ok = false := by
        rcases hok with ⟨_, o2, _⟩ | ⟨o1, _⟩
        · exfalso
          rw [show below (5 - 0) = val 4 from rfl, bl_drop_out c _ (by rw [hr.out.last]; exact Nat.le_refl _), val_below] at o2
          cases o2
        · exact o1
      obtain ⟨w4, e4, x4, b4, z4⟩ := box3 w3 k1 v1 c1
      have H4 : Hid (w4.ownsRow w2.heap.size 46 3 (.slice o vs.length cap) vs.length (cellsK vs) ∧ Mv b w2 w4) := by
        refine ⟨?_, m03.trans (Mv.of b4)⟩
        rw [List.take_length] at hown3
        exact own_move hown3 (Mv.of (b := b) b4) (by have := Z2.out; omega)
      clear hok t3 m03 hown3 x4 b4 z4 HM HO HT
      go_wp2
      go_ret
      refine ⟨o, cap, rfl, own_mono H4.out.1 (by have := HB.out.size; omega), HB.out.trans (H4.out.2.below ?_ HB.out.size)⟩
      have := Z1.out
      omega
end Go.Proofs.YtejgjipmnmfkcaaGreatDoor.Val
