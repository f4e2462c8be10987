/-
  ValueMake: values made of values are values, with these parts.
-/
import Derived.Test.YtncagkkngbmdkaaDoorRows
import Derived.WalkKit
import Derived.ProofKit
import Derived.OpenShut
import Derived.ShutString
import Derived.ChangeOld
import Derived.Below
import Derived.LaidMore
import Derived.Stop.Joined
import Derived.Deep.QuietTactic
import Derived.WalkSmall
import Derived.BigQuiet
import Derived.Deep.RegionWith
import Derived.OwnWalk
import Derived.RegionTactic
import Derived.ChangeAlike
import Derived.Deep.CutBlock
import Derived.SevenTiedAt
import Derived.Test.YtncagkkngbmdkaaDoorCards
import Derived.Test.YtncagkkngbmdkaaDoorTie
import Derived.SizedLaws
import Derived.Test.YtncagkkngbmdkaaDoorTree
import Derived.Test.YtncagkkngbmdkaaDoorMask
import Derived.Test.YtncagkkngbmdkaaDoorMem
import Derived.Test.YtncagkkngbmdkaaDoorWhole
import Derived.Test.YtncagkkngbmdkaaDoorOpenTexts
import Derived.Test.YtncagkkngbmdkaaDoorHome
import Derived.Test.YtncagkkngbmdkaaDoorDoor
import Derived.Test.YtncagkkngbmdkaaDoorRow
import Derived.Test.YtncagkkngbmdkaaDoorDigLib
import Derived.Test.YtncagkkngbmdkaaDoorWithin
import Derived.Test.YtncagkkngbmdkaaDoorPartsC
import Derived.Test.YtncagkkngbmdkaaDoorMake
import Derived.Test.YtncagkkngbmdkaaDoorAwake
namespace Go.Proofs.YtncagkkngbmdkaaDoor.valueMake
open Go.ChangeShapes Go.WideShapes Go.ChangeAt Go.RowKit
open Go.ChangeMaps (open_string shut_string)
set_option linter.unusedVariables false

theorem own : ownKnob Tryd.prog.godebug = none := by kernel_rfl
theorem laidOut : laidOutB Tryd.prog = true := by kernel_rfl

def IsRow (k : IntKind) (w : World) (a : Option Addr) (len cap : Nat) (zs : List Int) : Prop :=
  (a = none ∧ len = 0 ∧ cap = 0 ∧ zs = []) ∨
  ∃ x, a = some x ∧ len ≤ cap ∧ cap ≤ maxLen ∧ zs.length = cap ∧ (∀ i, i < zs.length → w.cell? (x.add i) = some (.int k (zs.getD i 0))) ∧ ∀ n ∈ zs, (Lit.int k n).wf = true

open Val Texts
/-- Values that may stand in a nest, none of them long. -/
structure Goods (ss : List ByteArray) : Prop where
  val : ∀ t ∈ ss, val 3 (bl t) = some t.size
  size : ∀ t ∈ ss, t.size ≤ 200
theorem Goods.nil : Goods [] := ⟨fun t h => by (cases h), fun t h => by (cases h)⟩
theorem Goods.snoc {ss : List ByteArray} (h : Goods ss) {t : ByteArray} (h1 : Val.val 3 (bl t) = some t.size) (h2 : t.size ≤ 200) : Goods (ss ++ [t]) := by
  constructor
  · intro u hu
    rcases List.mem_append.1 hu with c | c
    · exact h.val u c
    · rw [List.mem_singleton.1 c]; exact h1
  · intro u hu
    rcases List.mem_append.1 hu with c | c
    · exact h.size u c
    · rw [List.mem_singleton.1 c]; exact h2
theorem Goods.flat {ss : List ByteArray} (h : Goods ss) : (Val.flat ss).length ≤ 200 * ss.length := by
  have h2 := h.size
  clear h
  induction ss with
  | nil => exact Nat.le_refl _
  | cons t ss ih =>
    have h3 := ih (fun u hu => h2 u (List.mem_cons_of_mem _ hu))
    have h4 := h2 t List.mem_cons_self
    have e : Val.flat (t :: ss) = bl t ++ Val.flat ss := rfl
    rw [e, List.length_append, bl_length, List.length_cons]
    omega
theorem good_mk {l : List UInt8} (h : val 3 l = some l.length) : val 3 (bl (mk l)) = some (mk l).size := by rw [bl_mk', mk_size']; exact h
theorem map_back (ss : List ByteArray) : (ss.map bl).map (fun l => (⟨l.toArray⟩ : ByteArray)) = ss := by
  rw [List.map_map, show ((fun l => (⟨l.toArray⟩ : ByteArray)) ∘ bl) = id from funext fun s => bl_back s, List.map_id]
theorem parts_lists {ss : List ByteArray} (h : Goods ss) (hl : ss.length ≤ 30) : partsS (mk (listM (ss.map bl))) = some (3, ss) ∧ (mk (listM (ss.map bl))).size ≤ 65536 := by
  have hf := h.flat
  have hz : (listM (ss.map bl)).length = (Val.flat ss).length + 2 := by unfold listM Val.flat; simp
  refine ⟨?_, by rw [mk_size', hz]; omega⟩
  unfold partsS
  rw [bl_mk', parts_list (ss.map bl) (fun v hv => by
    obtain ⟨t, ht, rfl⟩ := List.mem_map.1 hv
    rw [bl_length]
    exact h.val t ht) (by omega)]
  show some (3, (ss.map bl).map fun l => (⟨l.toArray⟩ : ByteArray)) = _
  rw [map_back]
theorem parts_structs {ss : List ByteArray} (h : Goods ss) (hl : ss.length ≤ 30) : partsS (mk (structM (ss.map bl))) = some (4, ss) ∧ (mk (structM (ss.map bl))).size ≤ 65536 := by
  have hf := h.flat
  have hz : (structM (ss.map bl)).length = (Val.flat ss).length + 2 := by unfold structM Val.flat; simp
  refine ⟨?_, by rw [mk_size', hz]; omega⟩
  unfold partsS
  rw [bl_mk', parts_struct (ss.map bl) (fun v hv => by
    obtain ⟨t, ht, rfl⟩ := List.mem_map.1 hv
    rw [bl_length]
    exact h.val t ht) (by omega)]
  show some (4, (ss.map bl).map fun l => (⟨l.toArray⟩ : ByteArray)) = _
  rw [map_back]
theorem own_cap {w : World} {B n cap : Nat} {e : TypeId} {k : Nat} {o : Option Addr} {xs : List Value} (h : w.ownsRow B e k (.slice o n cap) n xs) : n ≤ cap := by
  rcases h.2 with ⟨_, c⟩ | ⟨g, cap', cur, h0, _, _, h1, _⟩
  · omega
  · injection h0 with _ _ h2
    omega
theorem good_int (x : Int) (h : in64 x) : val 3 (bl (mk (intM x))) = some (mk (intM x)).size ∧ (mk (intM x)).size ≤ 200 :=
  ⟨good_mk (val_int 3 x h), by rw [mk_size']; have := length_intD x h; unfold intM; simp; omega⟩
theorem good_bool (b : Bool) : val 3 (bl (mk (boolM b))) = some (mk (boolM b)).size ∧ (mk (boolM b)).size ≤ 200 :=
  ⟨good_mk (val_bool 3 b), by cases b <;> decide⟩
theorem good_bytes (s : ByteArray) (hs : s.size ≤ 100) : val 3 (bl (mk (bytesM (bl s)))) = some (mk (bytesM (bl s))).size ∧ (mk (bytesM (bl s))).size ≤ 200 :=
  ⟨good_mk (val_bytes 3 (bl s) (by rw [bl_length]; omega)), by rw [mk_size']; have := length_dig (bl s).length; unfold bytesM; simp [bl_length] at *; omega⟩
theorem good_nest : val 3 (bl (⟨#[91, 110, 123, 125, 93]⟩ : ByteArray)) = some (⟨#[91, 110, 123, 125, 93]⟩ : ByteArray).size ∧ (⟨#[91, 110, 123, 125, 93]⟩ : ByteArray).size ≤ 200 := by decide +kernel
theorem tx_two (w : World) (a b : ByteArray) : IsTx (w.alloc (.cells #[.string a, .string b] 9)) (some ⟨w.heap.size, 0, none⟩) [a, b] := Val.tx_two w a b
theorem make_none (w : World) : Calls Tryd.prog 13 #[.slice none 0 0] w fun r w' => r = .returned (.string ⟨#[123, 125]⟩) ∧ Below w.heap.size w w' :=
  structC none 0 [] (Nat.le_refl _) (by decide) (by decide) w ⟨by unfold maxLen; exact Nat.zero_le _, .inl rfl⟩
theorem make_nest (b : Nat) (w : World) (h : IsTx w (some ⟨b, 0, none⟩) [⟨#[110]⟩, ⟨#[123, 125]⟩]) : Calls Tryd.prog 12 #[.slice (some ⟨b, 0, none⟩) 2 2] w fun r w' => r = .returned (.string ⟨#[91, 110, 123, 125, 93]⟩) ∧ Below w.heap.size w w' := by
  have := listC (some ⟨b, 0, none⟩) 2 [⟨#[110]⟩, ⟨#[123, 125]⟩] (Nat.le_refl _) (by decide +kernel) (by decide) w h
  rw [show mk (listM ([⟨#[110]⟩, ⟨#[123, 125]⟩].map bl)) = ⟨#[91, 110, 123, 125, 93]⟩ from by decide +kernel] at this
  exact this
theorem and2 (x : Int) : ∃ k : Nat, bits .and .i64 x 3 = (k : Int) ∧ k < 4 := ⟨(x % 4).toNat, by rw [Tree.and_mask x 2 (by decide) _ (by decide)]; omega, by omega⟩
theorem wrap_in (x : Int) : in64 (IntKind.i64.wrap x) := by rw [IntKind.wrap_i64]; unfold in64; omega
set_option maxRecDepth 20000 in
set_option maxHeartbeats 4000000 in
theorem walk (a0 : Option Addr) (len0 cap0 : Nat) (z0 : List Int) (a1 : ByteArray) (a2 : Bool) (w : World) (hw : Hid (Val.Home w)) (w0 : IsRow .i64 w a0 len0 cap0 z0) (w1 : a1.size ≤ maxLen) (s1 : a1.size ≤ 140737488351232) (s0 : cap0 * 8 ≤ 140737488351232) :
    Calls Tryd.prog 7 #[.slice a0 len0 cap0, .string a1, .bool a2] w fun e w' => e = .returned (.bool true) ∧ Below w.heap.size w w' := by
  obtain ⟨i9, hi, hz0, hz1, hz2⟩ := info_parts info9
  have hlen : len0 ≤ cap0 ∧ cap0 * 8 ≤ 140737488351232 := by
    rcases w0 with ⟨_, rfl, rfl, _⟩ | ⟨x, _, h1, _⟩
    · exact ⟨Nat.le_refl _, by omega⟩
    · exact ⟨h1, s0⟩
  have HW0 : Hid (IsRow .i64 w a0 len0 cap0 z0) := w0
  clear w0
  go_enter Tryd.func7, Tryd.ntmps7
  go_wp2_with fail
  refine (awake w hw).mono ?_
  rintro e w1 ⟨rfl, b1⟩
  have HB1 : Hid (Below w.heap.size w w1) := b1
  clear b1
  go_wp2_with fail
  go_loopw [7, 8] (fun u q wr => ∃ (i : Nat) (ss : List ByteArray) (o : Option Addr) (cap : Nat), i ≤ len0 ∧ i ≤ 30 ∧ ss.length = i ∧ q = .int .i64 (i : Int) ∧ u = .slice o i cap ∧ Goods ss ∧ wr.ownsRow w1.heap.size 9 1 (.slice o i cap) i (cellsT ss) ∧ Below w1.heap.size w1 wr) (fun _ q _ => 30 - (intOf q).toNat)
  case atStart => exact ⟨0, [], none, 0, Nat.zero_le _, by omega, rfl, rfl, rfl, Goods.nil, World.ownsRow_nil _ _ _ _, Below.refl _ _⟩
  case round =>
    obtain ⟨i, ss, o, cap, h1, h2, hss, rfl, rfl, hgo, hown, hbl⟩ := hrel
    have HSS : Hid (ss.length = i) := hss
    have HG : Hid (Goods ss) := hgo
    have HO : Hid (wr.ownsRow w1.heap.size 9 1 (.slice o i cap) i (cellsT ss)) := hown
    have HBL : Hid (Below w1.heap.size w1 wr) := hbl
    have HBR : Hid (Below w.heap.size w wr) := bel2 HB1.out hbl
    have HWR : Hid (Home wr) := hw.out.later HBR.out
    clear hss hgo hown hbl
    by_cases hlt : i < len0 ∧ i < 30
    · obtain ⟨hl1, hl2⟩ := hlt
      obtain ⟨x, rfl, hx⟩ : ∃ x, a0 = some x ∧ w.cell? (x.add i) = some (.int .i64 (z0.getD i 0)) := by
        rcases HW0.out with ⟨_, rfl, _, _⟩ | ⟨x, e, q1, q2, q3, q4, _⟩
        · omega
        · exact ⟨x, e, q4 i (by omega)⟩
      have c1 := Tree.cell_later HBR.out hx
      have j0 : (0 : Int) ≤ (i : Int) := Int.natCast_nonneg _
      have j1 : (i : Int) < (len0 : Int) := by omega
      have j2 : (i : Int) < 30 := by omega
      obtain ⟨k, hk, hk4⟩ := and2 (z0.getD i 0)
      generalize z0.getD i 0 = z at *
      clear hx
      have hk0 : k = 0 ∨ k = 1 ∨ k = 2 ∨ k = 3 := by omega
      rcases hk0 with hk0 | hk0 | hk0 | hk0
      · obtain rfl : k = 0 := hk0
        have x1 : IntKind.i64.wrap (z - 30000) = IntKind.i64.wrap (z - 30000) := rfl
        obtain ⟨q, hq⟩ : ∃ q, IntKind.i64.wrap (z - 30000) = q := ⟨_, rfl⟩
        have hqi : in64 q := by rw [← hq]; exact wrap_in _
        clear x1
        go_wp2_with fail
        refine (intC q hqi wr HWR.out).mono ?_
        rintro e w5 ⟨rfl, b45⟩
        have hg := good_int q hqi
        generalize mk (intM q) = t at *
        have hown5 : w5.ownsRow w1.heap.size 9 1 (.slice o i cap) i (cellsT ss) := Val.own_move HO.out (Mv.of (b := 0) b45) (by have := HB1.out.size; have := hw.out.six; omega)
        have hbl5 : Below w1.heap.size w1 w5 := HBL.out.trans (b45.mono HBL.out.size)
        clear b45
        go_wp2_with (at_builtin; refine wpList_append_own _ rfl (.tmp 40) (.tmp 47) 23 rfl w1.heap.size 9 i9 (.string ⟨#[]⟩) 1 16 Tryd.underlying23 hi hz0 hz1 hz2 rfl (by decide) _ i _ rfl (hown5.alloc _) ⟨w5.heap.size, 0, none⟩ 1 1 [.string t] rfl rfl ?c1 ?c2 ?c3 ?c4 ?c5 ?_)
        case c1 =>
          intro j u hj
          match j, hj with
          | 0, hj => simp at hj; subst hj; simp [Addr.add]
        case c2 => intro u hu; simp at hu; subst hu; rfl
        case c3 => unfold maxLen; omega
        case c4 => omega
        case c5 => have := hbl5.size; simp; omega
        intro u6 w6 hown6 hgrow _
        have hb6 : Below w1.heap.size w1 w6 := (hbl5.alloc hbl5.size _).grown hgrow (by have := hbl5.size; simp; omega) (fun j hj => (hown5.lt j hj).1)
        have hown6' : w6.ownsRow w1.heap.size 9 1 u6 (i + 1) (cellsT (ss ++ [t])) := by
          rw [cellsT_snoc]
          exact hown6
        obtain ⟨o6, cap6, rfl⟩ := Tree.own_slice hown6'
        have H6 : Hid (w6.ownsRow w1.heap.size 9 1 (.slice o6 (i + 1) cap6) (i + 1) (cellsT (ss ++ [t])) ∧ Below w1.heap.size w1 w6) := ⟨hown6', hb6⟩
        clear hown6 hown6' hgrow hb6 hown5 hbl5
        go_wp2
        go_roundw
        case rel => exact ⟨i + 1, ss ++ [t], o6, cap6, by omega, by omega, by rw [List.length_append, HSS.out]; rfl, by go_num, rfl, HG.out.snoc hg.1 hg.2, H6.out.1, H6.out.2⟩
        case measure => simp [intOf]; omega
      · obtain rfl : k = 1 := hk0
        obtain ⟨B, hB⟩ : ∃ B, (bits .and .i64 z 4 == 4) = B := ⟨_, rfl⟩
        go_wp2_with fail
        refine (boolC B wr).mono ?_
        rintro e w5 ⟨rfl, rfl⟩
        have b45 : Below w5.heap.size w5 w5 := Below.refl _ _
        have hg := good_bool B
        generalize mk (boolM B) = t at *
        have hown5 : w5.ownsRow w1.heap.size 9 1 (.slice o i cap) i (cellsT ss) := Val.own_move HO.out (Mv.of (b := 0) b45) (by have := HB1.out.size; have := hw.out.six; omega)
        have hbl5 : Below w1.heap.size w1 w5 := HBL.out.trans (b45.mono HBL.out.size)
        clear b45
        go_wp2_with (at_builtin; refine wpList_append_own _ rfl (.tmp 51) (.tmp 59) 23 rfl w1.heap.size 9 i9 (.string ⟨#[]⟩) 1 16 Tryd.underlying23 hi hz0 hz1 hz2 rfl (by decide) _ i _ rfl (hown5.alloc _) ⟨w5.heap.size, 0, none⟩ 1 1 [.string t] rfl rfl ?c1 ?c2 ?c3 ?c4 ?c5 ?_)
        case c1 =>
          intro j u hj
          match j, hj with
          | 0, hj => simp at hj; subst hj; simp [Addr.add]
        case c2 => intro u hu; simp at hu; subst hu; rfl
        case c3 => unfold maxLen; omega
        case c4 => omega
        case c5 => have := hbl5.size; simp; omega
        intro u6 w6 hown6 hgrow _
        have hb6 : Below w1.heap.size w1 w6 := (hbl5.alloc hbl5.size _).grown hgrow (by have := hbl5.size; simp; omega) (fun j hj => (hown5.lt j hj).1)
        have hown6' : w6.ownsRow w1.heap.size 9 1 u6 (i + 1) (cellsT (ss ++ [t])) := by
          rw [cellsT_snoc]
          exact hown6
        obtain ⟨o6, cap6, rfl⟩ := Tree.own_slice hown6'
        have H6 : Hid (w6.ownsRow w1.heap.size 9 1 (.slice o6 (i + 1) cap6) (i + 1) (cellsT (ss ++ [t])) ∧ Below w1.heap.size w1 w6) := ⟨hown6', hb6⟩
        clear hown6 hown6' hgrow hb6 hown5 hbl5
        go_wp2
        go_roundw
        case rel => exact ⟨i + 1, ss ++ [t], o6, cap6, by omega, by omega, by rw [List.length_append, HSS.out]; rfl, by go_num, rfl, HG.out.snoc hg.1 hg.2, H6.out.1, H6.out.2⟩
        case measure => simp [intOf]; omega
      · obtain rfl : k = 2 := hk0
        go_wp2_with fail
        have hz : (a1.extract 0 (min ((a1.size : Nat) : Int) 100).toNat).size ≤ 100 := by rw [ByteArray.size_extract]; omega
        generalize a1.extract 0 (min ((a1.size : Nat) : Int) 100).toNat = u at *
        refine (bytesC u (by omega) wr HWR.out).mono ?_
        rintro e w5 ⟨rfl, b45⟩
        have hg := good_bytes u hz
        generalize mk (bytesM (bl u)) = t at *
        have hown5 : w5.ownsRow w1.heap.size 9 1 (.slice o i cap) i (cellsT ss) := Val.own_move HO.out (Mv.of (b := 0) b45) (by have := HB1.out.size; have := hw.out.six; omega)
        have hbl5 : Below w1.heap.size w1 w5 := HBL.out.trans (b45.mono HBL.out.size)
        clear b45
        go_wp2_with (at_builtin; refine wpList_append_own _ rfl (.tmp 63) (.tmp 70) 23 rfl w1.heap.size 9 i9 (.string ⟨#[]⟩) 1 16 Tryd.underlying23 hi hz0 hz1 hz2 rfl (by decide) _ i _ rfl (hown5.alloc _) ⟨w5.heap.size, 0, none⟩ 1 1 [.string t] rfl rfl ?c1 ?c2 ?c3 ?c4 ?c5 ?_)
        case c1 =>
          intro j u hj
          match j, hj with
          | 0, hj => simp at hj; subst hj; simp [Addr.add]
        case c2 => intro u hu; simp at hu; subst hu; rfl
        case c3 => unfold maxLen; omega
        case c4 => omega
        case c5 => have := hbl5.size; simp; omega
        intro u6 w6 hown6 hgrow _
        have hb6 : Below w1.heap.size w1 w6 := (hbl5.alloc hbl5.size _).grown hgrow (by have := hbl5.size; simp; omega) (fun j hj => (hown5.lt j hj).1)
        have hown6' : w6.ownsRow w1.heap.size 9 1 u6 (i + 1) (cellsT (ss ++ [t])) := by
          rw [cellsT_snoc]
          exact hown6
        obtain ⟨o6, cap6, rfl⟩ := Tree.own_slice hown6'
        have H6 : Hid (w6.ownsRow w1.heap.size 9 1 (.slice o6 (i + 1) cap6) (i + 1) (cellsT (ss ++ [t])) ∧ Below w1.heap.size w1 w6) := ⟨hown6', hb6⟩
        clear hown6 hown6' hgrow hb6 hown5 hbl5
        go_wp2
        go_roundw
        case rel => exact ⟨i + 1, ss ++ [t], o6, cap6, by omega, by omega, by rw [List.length_append, HSS.out]; rfl, by go_num, rfl, HG.out.snoc hg.1 hg.2, H6.out.1, H6.out.2⟩
        case measure => simp [intOf]; omega
      · obtain rfl : k = 3 := hk0
        go_wp2_with fail
        refine (nullC _).mono ?_
        rintro e wx ⟨rfl, rfl⟩
        go_wp2_with fail
        refine (make_none _).mono ?_
        rintro e w3 ⟨rfl, b3⟩
        go_wp2_with fail
        refine (make_nest _ _ (tx_two w3 _ _)).mono ?_
        rintro e w5 ⟨rfl, b5⟩
        have b45 : Below wx.heap.size wx w5 := bel2 (bel2 b3 ((Below.refl _ _).alloc (Nat.le_refl _) _)) b5
        clear b3 b5
        have hg := good_nest
        obtain ⟨t, ht⟩ : ∃ t : ByteArray, t = ⟨#[91, 110, 123, 125, 93]⟩ := ⟨_, rfl⟩
        rw [← ht] at hg ⊢
        clear ht
        have hown5 : w5.ownsRow w1.heap.size 9 1 (.slice o i cap) i (cellsT ss) := Val.own_move HO.out (Mv.of (b := 0) b45) (by have := HB1.out.size; have := hw.out.six; omega)
        have hbl5 : Below w1.heap.size w1 w5 := HBL.out.trans (b45.mono HBL.out.size)
        clear b45
        go_wp2_with (at_builtin; refine wpList_append_own _ rfl (.tmp 31) (.tmp 36) 23 rfl w1.heap.size 9 i9 (.string ⟨#[]⟩) 1 16 Tryd.underlying23 hi hz0 hz1 hz2 rfl (by decide) _ i _ rfl (hown5.alloc _) ⟨w5.heap.size, 0, none⟩ 1 1 [.string t] rfl rfl ?c1 ?c2 ?c3 ?c4 ?c5 ?_)
        case c1 =>
          intro j u hj
          match j, hj with
          | 0, hj => simp at hj; subst hj; simp [Addr.add]
        case c2 => intro u hu; simp at hu; subst hu; rfl
        case c3 => unfold maxLen; omega
        case c4 => omega
        case c5 => have := hbl5.size; simp; omega
        intro u6 w6 hown6 hgrow _
        have hb6 : Below w1.heap.size w1 w6 := (hbl5.alloc hbl5.size _).grown hgrow (by have := hbl5.size; simp; omega) (fun j hj => (hown5.lt j hj).1)
        have hown6' : w6.ownsRow w1.heap.size 9 1 u6 (i + 1) (cellsT (ss ++ [t])) := by
          rw [cellsT_snoc]
          exact hown6
        obtain ⟨o6, cap6, rfl⟩ := Tree.own_slice hown6'
        have H6 : Hid (w6.ownsRow w1.heap.size 9 1 (.slice o6 (i + 1) cap6) (i + 1) (cellsT (ss ++ [t])) ∧ Below w1.heap.size w1 w6) := ⟨hown6', hb6⟩
        clear hown6 hown6' hgrow hb6 hown5 hbl5
        go_wp2
        go_roundw
        case rel => exact ⟨i + 1, ss ++ [t], o6, cap6, by omega, by omega, by rw [List.length_append, HSS.out]; rfl, by go_num, rfl, HG.out.snoc hg.1 hg.2, H6.out.1, H6.out.2⟩
        case measure => simp [intOf]; omega
    · by_cases hl : i < len0
      · have hl1 : ((i : Nat) : Int) < ((len0 : Nat) : Int) := by omega
        have hl2 : ¬ ((i : Nat) : Int) < 30 := by omega
        clear hlt hl
        have HT : Hid (IsTx wr o ss) := own_texts (by rw [HSS.out]; exact HO.out)
        have hcap := own_cap HO.out
        have hfl := HG.out.flat
        have HFL : Hid ((Val.flat ss).length ≤ 6000) := by have := HSS.out; unfold Hid; omega
        obtain rfl : i = ss.length := HSS.out.symm
        clear hfl
        cases a2
        · go_wp2_with fail
          refine (structC o cap ss hcap (by have := HFL.out; omega) (by omega) wr HT.out).mono ?_
          rintro e w3 ⟨rfl, b3⟩
          obtain ⟨hp, hz⟩ := parts_structs HG.out h2
          generalize mk (structM (ss.map bl)) = v at *
          have HP : Hid (TellA v 4 ss 0) := .inl ⟨hp, rfl⟩
          have HT3 : Hid (IsTx w3 o ss) := HT.out.later b3
          have B3 : Hid (Below w.heap.size w w3) := bel2 HBR.out b3
          clear hp b3
          go_wp2_with fail
          refine (partsC v 4 ss 0 (by omega) HP w3 (hw.out.later B3.out)).mono ?_
          rintro e w4 ⟨o4, cap4, rfl, hown4, b4⟩
          have HT4 : Hid (IsTx w4 o ss ∧ IsTx w4 o4 ss) := ⟨HT3.out.later b4, own_texts hown4⟩
          have B4 : Hid (Below w.heap.size w w4) := bel2 B3.out b4
          clear hown4 b4
          go_wp2_with fail
          refine (numC _ _).mono ?_
          rintro e wx ⟨rfl, rfl⟩
          go_wp2_with fail
          refine (sameTexts o4 o cap4 cap ss (by omega) _ HT4.out.2 HT4.out.1).mono ?_
          rintro e w5 ⟨rfl, b5⟩
          go_wp2
          go_ret
          exact ⟨rfl, bel2 B4.out b5⟩
        · go_wp2_with fail
          refine (structC o cap ss hcap (by have := HFL.out; omega) (by omega) wr HT.out).mono ?_
          rintro e w3 ⟨rfl, b3⟩
          have HT3 : Hid (IsTx w3 o ss) := HT.out.later b3
          have B3 : Hid (Below w.heap.size w w3) := bel2 HBR.out b3
          clear b3
          go_wp2_with fail
          refine (listC o cap ss hcap (by have := HFL.out; omega) (by omega) w3 HT3.out).mono ?_
          rintro e w3b ⟨rfl, b3b⟩
          obtain ⟨hp, hz⟩ := parts_lists HG.out h2
          generalize mk (listM (ss.map bl)) = v at *
          have HP : Hid (TellA v 3 ss 0) := .inl ⟨hp, rfl⟩
          have HT3b : Hid (IsTx w3b o ss) := HT3.out.later b3b
          have B3b : Hid (Below w.heap.size w w3b) := bel2 B3.out b3b
          clear hp b3b
          go_wp2_with fail
          refine (partsC v 3 ss 0 (by omega) HP w3b (hw.out.later B3b.out)).mono ?_
          rintro e w4 ⟨o4, cap4, rfl, hown4, b4⟩
          have HT4 : Hid (IsTx w4 o ss ∧ IsTx w4 o4 ss) := ⟨HT3b.out.later b4, own_texts hown4⟩
          have B4 : Hid (Below w.heap.size w w4) := bel2 B3b.out b4
          clear hown4 b4
          go_wp2_with fail
          refine (numC _ _).mono ?_
          rintro e wx ⟨rfl, rfl⟩
          go_wp2_with fail
          refine (sameTexts o4 o cap4 cap ss (by omega) _ HT4.out.2 HT4.out.1).mono ?_
          rintro e w5 ⟨rfl, b5⟩
          go_wp2
          go_ret
          exact ⟨rfl, bel2 B4.out b5⟩
      · have hl1 : ¬ ((i : Nat) : Int) < ((len0 : Nat) : Int) := by omega
        clear hlt hl
        have HT : Hid (IsTx wr o ss) := own_texts (by rw [HSS.out]; exact HO.out)
        have hcap := own_cap HO.out
        have hfl := HG.out.flat
        have HFL : Hid ((Val.flat ss).length ≤ 6000) := by have := HSS.out; unfold Hid; omega
        obtain rfl : i = ss.length := HSS.out.symm
        clear hfl
        cases a2
        · go_wp2_with fail
          refine (structC o cap ss hcap (by have := HFL.out; omega) (by omega) wr HT.out).mono ?_
          rintro e w3 ⟨rfl, b3⟩
          obtain ⟨hp, hz⟩ := parts_structs HG.out h2
          generalize mk (structM (ss.map bl)) = v at *
          have HP : Hid (TellA v 4 ss 0) := .inl ⟨hp, rfl⟩
          have HT3 : Hid (IsTx w3 o ss) := HT.out.later b3
          have B3 : Hid (Below w.heap.size w w3) := bel2 HBR.out b3
          clear hp b3
          go_wp2_with fail
          refine (partsC v 4 ss 0 (by omega) HP w3 (hw.out.later B3.out)).mono ?_
          rintro e w4 ⟨o4, cap4, rfl, hown4, b4⟩
          have HT4 : Hid (IsTx w4 o ss ∧ IsTx w4 o4 ss) := ⟨HT3.out.later b4, own_texts hown4⟩
          have B4 : Hid (Below w.heap.size w w4) := bel2 B3.out b4
          clear hown4 b4
          go_wp2_with fail
          refine (numC _ _).mono ?_
          rintro e wx ⟨rfl, rfl⟩
          go_wp2_with fail
          refine (sameTexts o4 o cap4 cap ss (by omega) _ HT4.out.2 HT4.out.1).mono ?_
          rintro e w5 ⟨rfl, b5⟩
          go_wp2
          go_ret
          exact ⟨rfl, bel2 B4.out b5⟩
        · go_wp2_with fail
          refine (structC o cap ss hcap (by have := HFL.out; omega) (by omega) wr HT.out).mono ?_
          rintro e w3 ⟨rfl, b3⟩
          have HT3 : Hid (IsTx w3 o ss) := HT.out.later b3
          have B3 : Hid (Below w.heap.size w w3) := bel2 HBR.out b3
          clear b3
          go_wp2_with fail
          refine (listC o cap ss hcap (by have := HFL.out; omega) (by omega) w3 HT3.out).mono ?_
          rintro e w3b ⟨rfl, b3b⟩
          obtain ⟨hp, hz⟩ := parts_lists HG.out h2
          generalize mk (listM (ss.map bl)) = v at *
          have HP : Hid (TellA v 3 ss 0) := .inl ⟨hp, rfl⟩
          have HT3b : Hid (IsTx w3b o ss) := HT3.out.later b3b
          have B3b : Hid (Below w.heap.size w w3b) := bel2 B3.out b3b
          clear hp b3b
          go_wp2_with fail
          refine (partsC v 3 ss 0 (by omega) HP w3b (hw.out.later B3b.out)).mono ?_
          rintro e w4 ⟨o4, cap4, rfl, hown4, b4⟩
          have HT4 : Hid (IsTx w4 o ss ∧ IsTx w4 o4 ss) := ⟨HT3b.out.later b4, own_texts hown4⟩
          have B4 : Hid (Below w.heap.size w w4) := bel2 B3b.out b4
          clear hown4 b4
          go_wp2_with fail
          refine (numC _ _).mono ?_
          rintro e wx ⟨rfl, rfl⟩
          go_wp2_with fail
          refine (sameTexts o4 o cap4 cap ss (by omega) _ HT4.out.2 HT4.out.1).mono ?_
          rintro e w5 ⟨rfl, b5⟩
          go_wp2
          go_ret
          exact ⟨rfl, bel2 B4.out b5⟩

set_option maxRecDepth 100000 in
theorem lifted (os : Os) (started : os.Started) (H : Type) (enc : TypeId × Value → H) :
    ReturnsInHanded {} Tryd.checked os 7 .any (fun w args => (Rows.valueMakeSpec.pre enc Tryd.prog Tryd.f7 [] false w args ∧ laidMetH Tryd.prog Val.laidV w) ∧ sizedMet enc Tryd.prog Tryd.f7 (OpenSpec.ofChange Rows.valueMakeSpec) false w args) (Rows.valueMakeSpec.post enc Tryd.prog Tryd.f7 false true false false) := by
  refine returnsInHanded_of_change_and (C := Tryd.checked) (X := fun w _ => laidMetH Tryd.prog Val.laidV w) (fun _ _ _ hh h => h.of_heap hh) own started (by kernel_rfl) Tryd.func7
    (ChangeSpec.witness_shaped (enc := enc) (C := Tryd.checked) (os := os) (X := fun w _ => laidMetH Tryd.prog Val.laidV w) false (World.doorLaid Tryd.prog 400 os) #[.slice none 0 0, .string ByteArray.empty, .bool false] 8 rfl (World.shaped_of_RefB (by kernel_rfl) (by kernel_rfl)) (by kernel_rfl) (by kernel_rfl) (by kernel_rfl) (Val.door_met os _)) ?_
  intro W base args ds gs before hval0 hW hcnd hsz0 hL _
  have hsz : (DataW.weightsEach Tryd.prog (Tryd.f7.params.toList ++ Rows.valueMakeSpec.plain.varTypes Tryd.prog) (ds ++ gs)).all (· ≤ reachBytes) = true := hsz0
  clear hsz0
  have hval : ∀ (j : Nat) t v, Tryd.f7.params[j]? = some t → args[j]? = some v → Value.okWide Tryd.prog W .any base t v := hval0
  have hW' := hW
  obtain ⟨p, q, hA0, hV, rfl, hfz, hnd⟩ := hW
  have hA : DataW.TrodAll enc Tryd.prog W 0 (fun _ => true) true Tryd.f7.params.toList args.toList ds p := hA0
  rw [Tryd.params7] at hA hval hsz
  obtain ⟨v0, vs0, d0, ds0, p0, q0, hargs, rfl, rfl, h0, r0⟩ := trodAll_cons hA
  obtain ⟨v1, vs1, d1, ds1, p1, q1, rfl, rfl, rfl, h1, r1⟩ := trodAll_cons r0
  obtain ⟨v2, vs2, d2, ds2, p2, q2, rfl, rfl, rfl, h2, r2⟩ := trodAll_cons r1
  obtain ⟨rfl, rfl, rfl⟩ := trodAll_nil r2
  obtain rfl : args = #[v0, v1, v2] := by cases args; simp_all
  obtain ⟨rfl, rfl⟩ := trodVars_none hV
  obtain ⟨a0, len0, cap0, rfl⟩ := okWide_slice Tryd.underlying35 (hval 0 35 v0 rfl rfl)
  have k0 := h0
  have lt0 : ∀ x ∈ p0, x.block < W.heap.size := by obtain ⟨m, hm⟩ := k0; exact DataW.trod_lt m _ _ _ hm
  obtain ⟨z0, w0, s0⟩ : ∃ zs, IsRow .i64 W a0 len0 cap0 zs ∧ cap0 * 8 ≤ 140737488351232 := by
    obtain ⟨fuel, hf⟩ := h0
    rcases open_ints Tryd.underlying35 Tryd.underlying3 (by kernel_rfl) hf with ⟨hcs, _⟩ | ⟨x, l, c, zs, hcs, _, hl, hm, hz, hd, hcell, hwz⟩
    · simp [Value.cells] at hcs
      obtain ⟨rfl, rfl, rfl⟩ := hcs
      exact ⟨[], .inl ⟨rfl, rfl, rfl, rfl⟩, by decide⟩
    · simp [Value.cells] at hcs
      obtain ⟨rfl, rfl, rfl⟩ := hcs
      have hq : d0 = _ := (Prod.mk.inj hd).1
      have := sized_slice hsz (j := 0) (t := 35) rfl (congrArg some hq) Tryd.underlying35
      simp only [ChangeShapes.lits, List.length_map, List.length_take, List.length_drop] at this
      rw [show Tryd.prog.bytesOf 3 = 8 from by kernel_rfl] at this
      simp only [if_true] at hz
      unfold reachBytes at this
      exact ⟨zs, .inr ⟨_, rfl, hl, hm, hz, hcell, hwz⟩, by rw [Nat.min_eq_left (by omega)] at this; omega⟩
  obtain ⟨a1, rfl, rfl, rfl, w1⟩ := open_string Tryd.underlying9 (hval 1 9 v1 rfl rfl) h1
  obtain ⟨a2, rfl, rfl, rfl⟩ := open_bool Tryd.underlying4 (hval 2 4 v2 rfl rfl) h2
  have s1 : a1.size ≤ 140737488351232 := by have := sized_string hsz (j := 1) (t := 9) rfl rfl; simpa [reachBytes] using this
  clear hA0 hval0
  refine (walk a0 len0 cap0 z0 a1 a2 W (Val.home_of hL) w0 w1 s1 s0).mono fun e W' ⟨he, bel⟩ => ?_
  subst he
  exact ⟨_, rfl, _, _, _, [], _, [], hW', trodAll_mk1 (shut_bool Tryd.underlying4 _), (trodAll_cons_mk (Below.trod laidOut (by kernel_rfl) (of_decide_eq_true (by kernel_rfl)) k0 bel lt0) (trodAll_cons_mk (shut_string Tryd.underlying9 w1) (trodAll_cons_mk (shut_bool Tryd.underlying4 _) trodAll_mk0))), rfl, bel.frame _, fun h => by cases h⟩

theorem over : Rows.valueMakeRow.holds Tryd.pinned (OpenSpec.ofChange Rows.valueMakeSpec) :=
  OpenClaim.holds_of_wide 7 Tryd.f7 rfl rfl rfl rfl rfl rfl rfl ⟨rfl, rfl, rfl, rfl, rfl⟩ rfl rfl rfl rfl rfl (by kernel_rfl) Tryd.func7 (by kernel_rfl)
    (of_decide_eq_true (by kernel_rfl)) (by unfold Func.isWrapper; first | (rw [if_pos (by decide +kernel)]; kernel_rfl) | (rw [if_neg (by decide +kernel)]; exact ⟨rfl, rfl⟩))
    (fun os started H enc _ => lifted os started H enc)

end Go.Proofs.YtncagkkngbmdkaaDoor.valueMake
namespace Go.Proofs.YtncagkkngbmdkaaDoor
theorem valueMake_holds : Rows.ValueMakeCardSaid :=
  Claim7.holds_tied_plain_at .later [] [.data, .data, .data, .sentinel, .sentinel] true (true, "144572b7fb924916b0d2afe7311542e541e51744ef72fae6c12f1363541a2b76") true
    valueMake.over (fun _ h => by cases h) (by kernel_rfl) (fun _ h => by cases h) valueMake_row_tie rfl ⟨rfl, rfl⟩ (by kernel_rfl) rfl
    (fun f fn hf hfn => by
      obtain rfl : f = 7 := Option.some.inj ((show Tryd.prog.funcNamed Rows.valueMakeRow.func = some 7 by kernel_rfl).symm.trans hf) |>.symm
      obtain rfl : fn = Tryd.f7 := (Option.some.inj (Tryd.func7.symm.trans hfn)).symm
      exact ⟨by kernel_rfl, fun j t ht => by
        rw [Tryd.params7] at ht
        have hm : t ∈ [35, 9, 4] := by simpa using Array.mem_of_getElem? ht
        have hall : ([35, 9, 4].all fun u => !Tryd.prog.wantsStandIn u) = true := by kernel_rfl
        exact (show Tryd.prog.wantsStandIn t = false by simpa using List.all_eq_true.1 hall t hm)⟩)
    (by kernel_rfl)
#print axioms valueMake_holds
end Go.Proofs.YtncagkkngbmdkaaDoor
