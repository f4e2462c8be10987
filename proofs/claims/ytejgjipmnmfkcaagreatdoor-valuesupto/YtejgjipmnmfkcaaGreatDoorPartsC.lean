/-
  A value's kind and parts: taken.parts, Parts: contracts.
-/
import Derived.Test.YtejgjipmnmfkcaaGreatDoorMem
import Derived.Test.YtejgjipmnmfkcaaGreatDoorOpenTexts
import Derived.Test.YtejgjipmnmfkcaaGreatDoorTree
import Derived.Test.YtejgjipmnmfkcaaGreatDoorWhole
import Derived.Test.YtejgjipmnmfkcaaGreatDoorTk
import Derived.Test.YtejgjipmnmfkcaaGreatDoorKind
import Derived.Test.YtejgjipmnmfkcaaGreatDoorRow
import Derived.Test.YtejgjipmnmfkcaaGreatDoorTake
import Derived.Test.YtejgjipmnmfkcaaGreatDoorBehind
import Derived.Test.YtejgjipmnmfkcaaGreatDoorOnly
import Derived.Test.YtejgjipmnmfkcaaGreatDoorWithin
import Derived.Deep.RegionWith
namespace Go.Proofs.YtejgjipmnmfkcaaGreatDoor.Val
open Go.ChangeShapes Go.WideShapes Go.ChangeAt Go.RowKit
open Tree (own_slice own_mono)
open Texts (cellsT cellsT_snoc)

theorem info9 : (Tryz.prog.info? 9).map (fun i => (i.zero, i.size, i.bytes)) = some (some (.string ⟨#[]⟩), 1, 16) := by kernel_rfl
theorem cloneC (s : ByteArray) (hs : s.size ≤ 65536) (w : World) :
    Calls Tryz.prog 47 #[.string s] w fun r w' => r = .returned (.string s) ∧ Below w.heap.size w w' := by
  go_enter Tryz.func47, Tryz.ntmps47
  go_wp2_with fail
  refine (Tryz.stringslite_Clone s w (by omega)).mono ?_
  rintro e w1 ⟨rfl, b1⟩
  go_wp2
  go_ret
  exact ⟨rfl, b1⟩
/-- A row of one text. -/
theorem own_one (w : World) (s : ByteArray) : (w.alloc (.cells #[.string s] 9)).ownsRow w.heap.size 9 1 (.slice (some ⟨w.heap.size, 0, none⟩) 1 1) 1 (cellsT [s]) :=
  ⟨rfl, .inr ⟨w.heap.size, 1, #[.string s], rfl, Nat.le_refl _, heap_alloc_new _ _, Nat.le_refl _, by unfold maxLen; omega, rfl, rfl⟩⟩
/-- What a value that was taken is made of. -/
def PartsA (k : Int) (c : ByteArray) (ps : List ByteArray) : Prop := k = -1 ∧ ps = [] ∨ (k = 3 ∨ k = 4) ∧ Row4 c ps ∨ (k ≠ -1 ∧ k ≠ 3 ∧ k ≠ 4) ∧ ps = [c]
theorem Bx.one (w : World) (k : Int) (v c : ByteArray) : Bx (w.alloc (.cells #[.int .i64 k, .string v, .string c] 46)) w.heap.size k v c := ⟨heap_alloc_new _ _⟩
theorem cellsK_at : ∀ (vs : List ByteArray) (i : Nat), i < vs.length → (cellsK vs)[i * 3]? = some (.int .i64 (kindOf (bl (vs.getD i ByteArray.empty)))) ∧ (cellsK vs)[i * 3 + 1]? = some (.string (vs.getD i ByteArray.empty)) ∧ (cellsK vs)[i * 3 + 2]? = some (.string (bodyS (vs.getD i ByteArray.empty)))
  | [], i, h => absurd h (Nat.not_lt_zero _)
  | v :: vs, i, h => by
    have e : cellsK (v :: vs) = [.int .i64 (kindOf (bl v)), .string v, .string (bodyS v)] ++ cellsK vs := rfl
    cases i with
    | zero => exact ⟨rfl, rfl, rfl⟩
    | succ i =>
      obtain ⟨h1, h2, h3⟩ := cellsK_at vs i (Nat.lt_of_succ_lt_succ h)
      rw [e]
      refine ⟨?_, ?_, ?_⟩
      · rw [List.getElem?_append_right (by simp; omega)]
        rw [show (i + 1) * 3 - [Value.int .i64 (kindOf (bl v)), .string v, .string (bodyS v)].length = i * 3 from by simp; omega]
        exact h1
      · rw [List.getElem?_append_right (by simp; omega)]
        rw [show (i + 1) * 3 + 1 - [Value.int .i64 (kindOf (bl v)), .string v, .string (bodyS v)].length = i * 3 + 1 from by simp; omega]
        exact h2
      · rw [List.getElem?_append_right (by simp; omega)]
        rw [show (i + 1) * 3 + 2 - [Value.int .i64 (kindOf (bl v)), .string v, .string (bodyS v)].length = i * 3 + 2 from by simp; omega]
        exact h3
/-- Values that were taken, from an address on. -/
structure KLies (w : World) (x : Addr) (vs : List ByteArray) : Prop where
  kind : ∀ i, i < vs.length → w.cell? (x.add (i * 3)) = some (.int .i64 (kindOf (bl (vs.getD i ByteArray.empty))))
  all : ∀ i, i < vs.length → w.cell? (x.add (i * 3 + 1)) = some (.string (vs.getD i ByteArray.empty))
  body : ∀ i, i < vs.length → w.cell? (x.add (i * 3 + 2)) = some (.string (bodyS (vs.getD i ByteArray.empty)))
theorem KLies.later {w w' : World} {x : Addr} {vs : List ByteArray} (h : KLies w x vs) (hb : Below w.heap.size w w') : KLies w' x vs :=
  ⟨fun i hi => Tree.cell_later hb (h.kind i hi), fun i hi => Tree.cell_later hb (h.all i hi), fun i hi => Tree.cell_later hb (h.body i hi)⟩
theorem KLies.all' {w : World} {x : Addr} {vs : List ByteArray} (h : KLies w x vs) (i : Nat) (hi : i < vs.length) : w.cell? { block := (x.add (i * 3)).block, off := (x.add (i * 3)).off + 1 } = some (.string (vs.getD i ByteArray.empty)) :=
  Tree.add_at (i * 3) 1 (h.all i hi)
theorem KLies.body' {w : World} {x : Addr} {vs : List ByteArray} (h : KLies w x vs) (i : Nat) (hi : i < vs.length) : w.cell? { block := (x.add (i * 3)).block, off := (x.add (i * 3)).off + 2 } = some (.string (bodyS (vs.getD i ByteArray.empty))) :=
  Tree.add_at (i * 3) 2 (h.body i hi)
theorem row_lies {w : World} {B cap : Nat} {o : Option Addr} {vs : List ByteArray} (h : w.ownsRow B 46 3 (.slice o vs.length cap) vs.length (cellsK vs)) (h1 : 1 ≤ vs.length) : ∃ x, o = some x ∧ KLies w x vs := by
  rcases h.2 with ⟨_, e⟩ | ⟨g, cap', cur, h0, _, _, hle, hm, _⟩
  · omega
  · injection h0 with h2 h3 h4
    subst h2 h4
    have hc : ∀ j u, (cellsK vs)[j]? = some u → w.cell? ((⟨g, 0, none⟩ : Addr).add j) = some u := h.cells rfl
    exact ⟨_, rfl, fun i hi => hc _ _ (cellsK_at vs i hi).1, fun i hi => hc _ _ (cellsK_at vs i hi).2.1, fun i hi => hc _ _ (cellsK_at vs i hi).2.2⟩
set_option maxRecDepth 20000 in
set_option maxHeartbeats 1600000 in
theorem takenParts (k : Int) (v c : ByteArray) (ps : List ByteArray) (hc : c.size ≤ 65536) (hp : Hid (PartsA k c ps)) (w : World) (hw : Hid (Home w)) :
    Calls Tryz.prog 29 #[.agg #[.int .i64 k, .string v, .string c]] w fun r w' => ∃ o cap, r = .returned (.slice o ps.length cap) ∧ w'.ownsRow w.heap.size 9 1 (.slice o ps.length cap) ps.length (cellsT ps) ∧ Below w.heap.size w w' := by
  obtain ⟨w1, e1, x1, b1, z1⟩ := box3 w k v c
  have d0 := x1.c0
  have d1 := x1.c1
  have d2 := x1.c2
  have B1 : Hid (Below w.heap.size w w1) := b1
  rcases hp.out with ⟨rfl, rfl⟩ | ⟨hk, hr⟩ | ⟨⟨k1, k2, k3⟩, rfl⟩
  · clear z1 x1 b1
    go_enter Tryz.func29, Tryz.ntmps29
    go_wp2
    go_ret
    exact ⟨none, 0, rfl, World.ownsRow_nil _ _ _ _, B1.out⟩
  · have n1 : (k == -1) = false := by rw [beq_eq_false_iff_ne]; omega
    have HR : Hid (Row4 c ps) := hr
    have hlen : ps.length ≤ 65536 := Nat.le_trans hr.len hc
    have hsz : ∀ i, i < ps.length → (ps.getD i ByteArray.empty).size ≤ 65536 := fun i hi => by
      have := hr.pos_le (i + 1)
      rw [pos_succ ps i hi] at this
      omega
    have HSZ : Hid (∀ i, i < ps.length → (ps.getD i ByteArray.empty).size ≤ 65536) := hsz
    obtain ⟨i9, hi, hz0, hz1, hz2⟩ := info_parts info9
    have HW1 : Hid (Home w1) := hw.out.later b1
    clear z1 x1 b1 hr hsz
    rcases hk with rfl | rfl
    all_goals
      go_enter Tryz.func29, Tryz.ntmps29
      go_wp2_with fail
      clear d0 d1 d2 e1 n1
      refine (withinC _ v c ps hc HR w1 HW1).mono ?_
      rintro e w2 ⟨o, cap, rfl, hown2, b2⟩
      have HO2 : Hid (w2.ownsRow w1.heap.size 46 3 (.slice o ps.length cap) ps.length (cellsK ps)) := hown2
      have HB2 : Hid (Below w.heap.size w w2) := bel2 B1.out b2
      clear hown2 b2
      go_wp2_with fail
      go_loopw [3, 16] (fun u t wr => ∃ (i : Nat) (o3 : Option Addr) (cap3 : Nat), i ≤ ps.length ∧ t = .int .i64 (i : Int) ∧ u = .slice o3 i cap3 ∧ wr.ownsRow w2.heap.size 9 1 (.slice o3 i cap3) i (cellsT (ps.take i)) ∧ Below w2.heap.size w2 wr) (fun _ t _ => ps.length - (intOf t).toNat)
      case atStart => exact ⟨0, none, 0, Nat.zero_le _, rfl, rfl, World.ownsRow_nil _ _ _ _, Below.refl _ _⟩
      case round =>
        obtain ⟨i, o3, cap3, hil, rfl, rfl, hown, hbl⟩ := hrel
        by_cases hlt : i < ps.length
        · obtain ⟨x, rfl, hx⟩ := row_lies HO2.out (by omega)
          have hx2 := hx.later hbl
          have d0 := hx2.kind i hlt
          have d1 := hx2.all' i hlt
          have d2 := hx2.body' i hlt
          have hs := HSZ.out i hlt
          have HV : Hid (ps.take (i + 1) = ps.take i ++ [ps.getD i ByteArray.empty]) := take_text ps i hlt
          have HOWN : Hid (wr.ownsRow w2.heap.size 9 1 (.slice o3 i cap3) i (cellsT (ps.take i))) := hown
          have HBL : Hid (Below w2.heap.size w2 wr) := hbl
          clear hx hx2 hown
          generalize ps.getD i ByteArray.empty = t at *
          generalize bodyS t = tb at *
          generalize kindOf (bl t) = tk at *
          obtain ⟨w4, e4, x4, b4, z4⟩ := box3 wr tk t tb
          have f1 := x4.c1
          clear z4
          go_wp2_with fail
          refine (cloneC t hs w4).mono ?_
          rintro e w5 ⟨rfl, b5⟩
          have b45 := bel2 b4 b5
          have hown5 := own_move HOWN.out (Mv.of (b := 0) b45) (by have := HB2.out.size; have := hw.out.six; omega)
          have hbl5 : Below w2.heap.size w2 w5 := hbl.trans (b45.mono hbl.size)
          clear hbl HBL HOWN d0 d1 d2 e4 x4 b4 b5 f1 b45
          go_wp2_with (at_builtin; refine wpList_append_own _ rfl (.tmp 20) (.tmp 24) 22 rfl w2.heap.size 9 i9 (.string ⟨#[]⟩) 1 16 Tryz.underlying22 hi hz0 hz1 hz2 rfl (by decide) _ i _ rfl (hown5.alloc _) ⟨w5.heap.size, 0, none⟩ 1 1 [.string t] rfl rfl ?c1 ?c2 ?c3 ?c4 ?c5 ?_)
          case c1 =>
            intro j u hj
            match j, hj with
            | 0, hj => simp at hj; subst hj; simp [Addr.add]
          case c2 => intro u hu; simp at hu; subst hu; rfl
          case c3 => unfold maxLen; omega
          case c4 => omega
          case c5 => have := hbl5.size; simp; omega
          intro u6 w6 hown6 hgrow _
          have hb6 : Below w2.heap.size w2 w6 := (hbl5.alloc hbl5.size _).grown hgrow (by have := hbl5.size; simp; omega) (fun j hj => (hown5.lt j hj).1)
          have hown6' : w6.ownsRow w2.heap.size 9 1 u6 (i + 1) (cellsT (ps.take (i + 1))) := by
            rw [HV.out, cellsT_snoc]
            exact hown6
          obtain ⟨o6, cap6, rfl⟩ := own_slice hown6'
          have H6 : Hid (w6.ownsRow w2.heap.size 9 1 (.slice o6 (i + 1) cap6) (i + 1) (cellsT (ps.take (i + 1))) ∧ Below w2.heap.size w2 w6) := ⟨hown6', hb6⟩
          clear hown6 hown6' hgrow hb6 hown5 hbl5
          go_wp2
          go_roundw
          case rel => exact ⟨i + 1, o6, cap6, by omega, by go_num, rfl, H6.out.1, H6.out.2⟩
          case measure => simp [intOf]; omega
        · obtain rfl : i = ps.length := by omega
          rw [List.take_length] at hown
          have HOWN : Hid (wr.ownsRow w2.heap.size 9 1 (.slice o3 ps.length cap3) ps.length (cellsT ps)) := hown
          clear hown
          go_wp2
          go_ret
          exact ⟨o3, cap3, rfl, own_mono HOWN.out HB2.out.size, HB2.out.trans (hbl.mono HB2.out.size)⟩
  · have n1 : (k == -1) = false := by rw [beq_eq_false_iff_ne]; exact k1
    have n2 : (k == 3) = false := by rw [beq_eq_false_iff_ne]; exact k2
    have n3 : (k == 4) = false := by rw [beq_eq_false_iff_ne]; exact k3
    clear z1 x1 b1 k1 k2 k3
    go_enter Tryz.func29, Tryz.ntmps29
    go_wp2_with fail
    refine (cloneC c hc w1).mono ?_
    rintro e w2 ⟨rfl, b2⟩
    have H2 : Hid ((w2.alloc (.cells #[.string c] 9)).ownsRow w2.heap.size 9 1 (.slice (some ⟨w2.heap.size, 0, none⟩) 1 1) 1 (cellsT [c]) ∧ Below w.heap.size w w2) := ⟨own_one w2 c, bel2 B1.out b2⟩
    clear b2 d0 d1 d2 e1
    go_wp2
    go_ret
    exact ⟨some ⟨w2.heap.size, 0, none⟩, 1, rfl, own_mono H2.out.1 H2.out.2.size, H2.out.2.alloc H2.out.2.size _⟩
theorem mk_size (l : List UInt8) : (⟨l.toArray⟩ : ByteArray).size = l.length := by rw [← bl_length, bl_mk]
theorem flat_mk (ps : List (List UInt8)) : flat (ps.map fun l => (⟨l.toArray⟩ : ByteArray)) = ps.flatten := by
  unfold flat
  rw [List.map_map, show (bl ∘ fun l : List UInt8 => (⟨l.toArray⟩ : ByteArray)) = id from funext fun l => bl_mk l, List.map_id]
theorem row_mk {v : ByteArray} {ps : List (List UInt8)} (h1 : bodyOf (bl v) = ps.flatten) (h2 : ∀ p ∈ ps, val 3 p = some p.length) : Row4 (bodyS v) (ps.map fun l => (⟨l.toArray⟩ : ByteArray)) := by
  refine ⟨by rw [bl_bodyS, h1, flat_mk], fun u hu => ?_⟩
  obtain ⟨p, hp, rfl⟩ := List.mem_map.1 hu
  rw [bl_mk, mk_size]
  exact val_up 3 4 (by omega) _ _ (h2 p hp)
theorem parts_told {s : ByteArray} (hv : isVal (bl s)) : ∃ ps, partsS s = some (kindOf (bl s), ps) ∧ PartsA (kindOf (bl s)) (bodyS s) ps := by
  obtain ⟨k, ps, h, hm⟩ := parts_made hv
  have hs : partsS s = some (k, ps.map fun l => (⟨l.toArray⟩ : ByteArray)) := by
    unfold partsS
    rw [h]
    rfl
  rcases hm with ⟨rfl, rfl, e⟩ | ⟨x, _, rfl, rfl, e⟩ | ⟨b, rfl, rfl, e⟩ | ⟨t, rfl, rfl, e⟩ | ⟨rfl, e, hp⟩ | ⟨rfl, e, hp⟩
  · have hk : kindOf (bl s) = -1 := by rw [e]; rfl
    rw [hk]
    exact ⟨_, hs, .inl ⟨rfl, rfl⟩⟩
  · have hk : kindOf (bl s) = 0 := by rw [e]; rfl
    have hb : bodyOf (bl s) = intD x := by
      rw [e]
      show (intD x ++ [59]).dropLast = _
      rw [List.dropLast_concat]
    rw [hk]
    exact ⟨_, hs, .inr (.inr ⟨by decide, by unfold bodyS; rw [hb]; rfl⟩)⟩
  · have hk : kindOf (bl s) = 1 := by rw [e]; cases b <;> rfl
    have hb : bodyOf (bl s) = boolM b := by rw [e]; cases b <;> rfl
    rw [hk]
    exact ⟨_, hs, .inr (.inr ⟨by decide, by unfold bodyS; rw [hb]; rfl⟩)⟩
  · have hk : kindOf (bl s) = 2 := by rw [e]; rfl
    have hb : bodyOf (bl s) = t := by
      rw [e]
      unfold bytesM
      have hs2 : seek 58 (dig t.length ++ 58 :: t) = some (dig t.length).length := by
        refine seek_app _ _ fun b hb e => ?_
        have := dig_digit _ b hb
        rw [e] at this
        exact absurd this.2 (by decide)
      rw [bodyOf_s, hs2]
      show (dig t.length ++ 58 :: t).drop ((dig t.length).length + 1) = t
      rw [show dig t.length ++ 58 :: t = (dig t.length ++ [58]) ++ t from by simp, List.drop_append_of_le_length (by simp), List.drop_eq_nil_of_le (by simp)]
      rfl
    rw [hk]
    exact ⟨_, hs, .inr (.inr ⟨by decide, by unfold bodyS; rw [hb]; rfl⟩)⟩
  · have hk : kindOf (bl s) = 3 := by rw [e]; rfl
    have hb : bodyOf (bl s) = ps.flatten := by
      rw [e]
      show (ps.flatten ++ [93]).dropLast = _
      rw [List.dropLast_concat]
    rw [hk]
    exact ⟨_, hs, .inr (.inl ⟨.inl rfl, row_mk hb hp⟩)⟩
  · have hk : kindOf (bl s) = 4 := by rw [e]; rfl
    have hb : bodyOf (bl s) = ps.flatten := by
      rw [e]
      show (ps.flatten ++ [125]).dropLast = _
      rw [List.dropLast_concat]
    rw [hk]
    exact ⟨_, hs, .inr (.inl ⟨.inr rfl, row_mk hb hp⟩)⟩
theorem body_size (s : ByteArray) (hs : s.size ≤ 65536) : (bodyS s).size ≤ 65536 := by
  rw [← bl_length, bl_bodyS]
  rw [← bl_length] at hs
  cases h : bl s with
  | nil => exact Nat.zero_le _
  | cons b r =>
    rw [h] at hs
    have hr : r.length ≤ 65535 := by simpa using hs
    rw [bodyOf]
    split
    · exact Nat.zero_le _
    · split
      · rw [List.length_dropLast]
        omega
      · split
        · split
          · exact Nat.zero_le _
          · rw [List.length_drop]
            omega
        · simp
/-- What Parts tells of a text. -/
def TellA (s : ByteArray) (k : Int) (ps : List ByteArray) (E : Int) : Prop := partsS s = some (k, ps) ∧ E = 0 ∨ partsS s = none ∧ k = 0 ∧ ps = [] ∧ E = 700
theorem tellA_some (s : ByteArray) : ∃ k ps E, TellA s k ps E := by
  cases h : partsS s with
  | none => exact ⟨0, [], 700, .inr ⟨h, rfl, rfl, rfl⟩⟩
  | some p => exact ⟨p.1, p.2, 0, .inl ⟨h, rfl⟩⟩
set_option maxRecDepth 20000 in
set_option maxHeartbeats 1600000 in
theorem partsC (s : ByteArray) (k : Int) (ps : List ByteArray) (E : Int) (hs : s.size ≤ 9223372036854775807) (ha : Hid (TellA s k ps E)) (w : World) (hw : Hid (Home w)) :
    Calls Tryz.prog 6 #[.string s] w fun r w' => ∃ o cap, r = .returned (.tuple #[.int .i64 k, .slice o ps.length cap, .int .i64 E]) ∧ w'.ownsRow w.heap.size 9 1 (.slice o ps.length cap) ps.length (cellsT ps) ∧ Below w.heap.size w w' := by
  go_enter Tryz.func6, Tryz.ntmps6
  go_wp2_with fail
  refine (onlyC s hs w hw).mono ?_
  rintro e w1 ⟨k1, v, c, ok, rfl, b1, hok⟩
  obtain ⟨w2, e2, x2, b2, z2⟩ := box3 w1 k1 v c
  have B2 : Hid (Below w.heap.size w w2) := bel2 b1 b2
  have HW2 : Hid (Home w2) := hw.out.later B2.out
  rcases hok with ⟨rfl, hv, rfl, hk, hb⟩ | ⟨rfl, hv⟩
  · obtain ⟨qs, h1, h2⟩ := parts_told hv
    have hcs := bodyS_eq hb
    have hsz : c.size ≤ 65536 := by
      rw [hcs]
      exact body_size v (by have := hv.1; rw [bl_length] at this; exact this)
    obtain ⟨rfl, rfl, rfl⟩ : k = k1 ∧ ps = qs ∧ E = 0 := by
      rcases ha.out with ⟨a1, a2⟩ | ⟨a1, _⟩
      · rw [a1] at h1
        injection h1 with h1
        injection h1 with h1 h3
        exact ⟨by rw [hk]; exact h1, h3, a2⟩
      · rw [a1] at h1
        cases h1
    have HP : Hid (PartsA k c ps) := by
      unfold Hid
      rw [hcs, hk]
      exact h2
    have d0 := x2.c0
    have d1 := x2.c1
    have d2 := x2.c2
    have HX2 : Hid (Bx w2 w1.heap.size k v c) := x2
    clear hv h1 h2 hcs hk hb b1 b2 z2 x2
    go_wp2_with fail
    go_region_with (go_at_call 29; refine (takenParts k v c ps hsz HP _ (HW2.out.later (drewN_below _ 1))).mono ?_; rintro e w3 ⟨o3, cap3, rfl, hown3, b3⟩; have X3 := (HX2.out.later (drewN_below _ 1)).later b3; have d3 := X3.c0; have d4 := X3.c1; have d5 := X3.c2; clear X3; have H3 : Hid (w3.ownsRow w.heap.size 9 1 (.slice o3 ps.length cap3) ps.length (cellsT ps) ∧ Below w.heap.size w w3) := ⟨own_mono hown3 B2.out.size, bel2 B2.out (bel2 (drewN_below _ 1) b3)⟩; clear hown3 b3)
    all_goals
      go_wp2
      go_ret3
      exact ⟨o3, cap3, rfl, H3.out⟩
  · obtain ⟨rfl, rfl, rfl⟩ : k = 0 ∧ ps = [] ∧ E = 700 := by
      rcases ha.out with ⟨a1, a2⟩ | ⟨_, a1, a2, a3⟩
      · rw [partsS_none hv] at a1
        cases a1
      · exact ⟨a1, a2, a3⟩
    clear hv b1 b2 z2 x2
    go_wp2
    go_ret3
    exact ⟨none, 0, rfl, World.ownsRow_nil _ _ _ _, B2.out⟩
end Go.Proofs.YtejgjipmnmfkcaaGreatDoor.Val
