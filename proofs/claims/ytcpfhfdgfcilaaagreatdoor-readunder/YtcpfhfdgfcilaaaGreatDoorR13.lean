/-
  Several texts in one: Values one behind the other in a text: plain facts; such values as cells. · The texts that values are made as; texts held against texts: contracts. · Digits and made values, as the document's own answers lay them: contracts. · Numbers of a part of a text; ends of a row: the document's ends: contract. · An array that may be: looked at more deeply it is the same; each part of it may be, and its rows are those of the whole. · A row's value, by the document: a row that is nothing, a dictionary's, a run's: contracts.
-/
import Derived.WalkKit
import Derived.Test.YtcpfhfdgfcilaaaGreatDoorR02
import Derived.Test.YtcpfhfdgfcilaaaGreatDoorR03
import Derived.Test.YtcpfhfdgfcilaaaGreatDoorR12
import Derived.Test.YtcpfhfdgfcilaaaGreatDoorR01
import Derived.Laws.AppendOwnNone
import Derived.Laws.IdiomStrings
import Derived.Test.YtcpfhfdgfcilaaaGreatDoorR11
import Derived.Test.YtcpfhfdgfcilaaaGreatDoorR04
import Derived.Maps.AppendAt
import Derived.OneCell
import Derived.Laws.OwnMore
namespace Go.Proofs.YtcpfhfdgfcilaaaGreatDoor.Val

def flat (vs : List ByteArray) : List UInt8 := (vs.map bl).flatten
/-- Where the value of a number begins. -/
def pos (vs : List ByteArray) (i : Nat) : Nat := (flat (vs.take i)).length
/-- A text is these values. -/
structure Row4 (c : ByteArray) (vs : List ByteArray) : Prop where
  eq : bl c = flat vs
  each : ∀ v ∈ vs, val 4 (bl v) = some v.size
theorem flat_app (a b : List ByteArray) : flat (a ++ b) = flat a ++ flat b := by unfold flat; rw [List.map_append, List.flatten_append]
theorem flat_one (v : ByteArray) : flat [v] = bl v := by simp [flat]
theorem getD_text (vs : List ByteArray) (i : Nat) (h : i < vs.length) : vs.getD i ByteArray.empty = vs[i] := by rw [List.getD_eq_getElem?_getD, List.getElem?_eq_getElem h]; rfl
theorem take_text (vs : List ByteArray) (i : Nat) (h : i < vs.length) : vs.take (i + 1) = vs.take i ++ [vs.getD i ByteArray.empty] := by rw [List.take_succ_eq_append_getElem h, getD_text vs i h]
theorem pos_succ (vs : List ByteArray) (i : Nat) (h : i < vs.length) : pos vs (i + 1) = pos vs i + (vs.getD i ByteArray.empty).size := by
  unfold pos
  rw [take_text vs i h, flat_app, List.length_append, flat_one, bl_length]
theorem Row4.last {c : ByteArray} {vs : List ByteArray} (h : Row4 c vs) : pos vs vs.length = c.size := by
  unfold pos
  rw [List.take_length, ← h.eq, bl_length]
theorem Row4.cut {c : ByteArray} {vs : List ByteArray} (h : Row4 c vs) (i : Nat) (hi : i < vs.length) : (bl c).drop (pos vs i) = bl (vs.getD i ByteArray.empty) ++ flat (vs.drop (i + 1)) := by
  have e : vs = vs.take i ++ (vs.getD i ByteArray.empty :: vs.drop (i + 1)) := by
    rw [getD_text vs i hi, ← List.drop_eq_getElem_cons hi, List.take_append_drop]
  have e2 : flat vs = flat (vs.take i) ++ (bl (vs.getD i ByteArray.empty) ++ flat (vs.drop (i + 1))) := by
    rw [show flat vs = flat (vs.take i ++ (vs.getD i ByteArray.empty :: vs.drop (i + 1))) from by rw [← e], flat_app]
    rfl
  rw [h.eq, e2]
  unfold pos
  rw [List.drop_append_of_le_length (Nat.le_refl _), List.drop_length]
  rfl
theorem getD_memT (vs : List ByteArray) (i : Nat) (h : i < vs.length) : vs.getD i ByteArray.empty ∈ vs := by
  rw [getD_text vs i h]
  exact List.getElem_mem h
theorem Row4.at {c : ByteArray} {vs : List ByteArray} (h : Row4 c vs) (i : Nat) (hi : i < vs.length) :
    val 4 ((bl c).drop (pos vs i)) = some (vs.getD i ByteArray.empty).size ∧ c.extract (pos vs i) (pos vs i + (vs.getD i ByteArray.empty).size) = vs.getD i ByteArray.empty := by
  have hc := h.cut i hi
  constructor
  · rw [hc]
    exact (fair_val 4).ext _ _ _ (h.each _ (getD_memT vs i hi))
  · apply bl_inj
    rw [bl_part, hc, Nat.add_sub_cancel_left, ← bl_length, List.take_append_of_le_length (Nat.le_refl _), List.take_length]
theorem size_pos {v : ByteArray} (h : val 4 (bl v) = some v.size) : 1 ≤ v.size := ((fair_val 4).pos _ _ h).1
theorem Row4.le_pos {c : ByteArray} {vs : List ByteArray} (h : Row4 c vs) : ∀ i, i ≤ vs.length → i ≤ pos vs i := by
  intro i
  induction i with
  | zero => intro _; exact Nat.zero_le _
  | succ i ih =>
    intro hi
    have := ih (by omega)
    have := size_pos (h.each _ (getD_memT vs i hi))
    rw [pos_succ vs i hi]
    omega
theorem Row4.len {c : ByteArray} {vs : List ByteArray} (h : Row4 c vs) : vs.length ≤ c.size := by
  rw [← h.last]
  exact h.le_pos _ (Nat.le_refl _)
/-- What a value has between its signs, as a text. -/
def bodyS (v : ByteArray) : ByteArray := ⟨(bodyOf (bl v)).toArray⟩
end Go.Proofs.YtcpfhfdgfcilaaaGreatDoor.Val
namespace Go.Proofs.YtcpfhfdgfcilaaaGreatDoor.Val
open Go.ChangeShapes Go.WideShapes Go.ChangeAt Go.RowKit
open Texts

/-- Bytes as a text. -/
def mk (l : List UInt8) : ByteArray := ⟨l.toArray⟩
theorem bl_mk' (l : List UInt8) : bl (mk l) = l := bl_mk l
theorem mk_app (a b : List UInt8) : mk a ++ mk b = mk (a ++ b) := bl_inj (by rw [bl_append, bl_mk', bl_mk', bl_mk'])
theorem mk_of (s : ByteArray) : mk (bl s) = s := bl_back s
theorem mk_size' (l : List UInt8) : (mk l).size = l.length := by rw [← bl_length, bl_mk']
theorem nullC (w : World) : Calls Tryz.prog 78 #[] w fun r w' => r = .returned (.string (mk nullM)) ∧ w' = w := by
  go_enter Tryz.func78, Tryz.ntmps78
  go_wp2
  go_ret
  exact ⟨rfl, rfl⟩
theorem boolC (b : Bool) (w : World) : Calls Tryz.prog 143 #[.bool b] w fun r w' => r = .returned (.string (mk (boolM b))) ∧ w' = w := by
  cases b
  all_goals
    go_enter Tryz.func143, Tryz.ntmps143
    go_wp2
    go_ret
    exact ⟨rfl, rfl⟩
theorem itoaC (x : Int) (l : List UInt8) (hx : in64 x) (hl : intD x = l) (w : World) (hw : Home w) :
    Calls Tryz.prog 180 #[.int .i64 x] w fun r w' => r = .returned (.string (mk l)) ∧ Below w.heap.size w w' := by
  refine (Tryz.strconv_Itoa x hx.1 hx.2 w hw.tab).mono ?_
  rintro e w' ⟨rfl, k, os, rfl⟩
  exact ⟨by rw [itoa_intD x hx, hl]; rfl, Lib.below_grow _ _ (Nat.le_refl _) _ _⟩
theorem ret_text {a b : ByteArray} (h : a = b) : Ending.returned (.string a) = .returned (.string b) := by rw [h]
set_option maxRecDepth 20000 in
theorem intC (x : Int) (hx : in64 x) (w : World) (hw : Home w) : Calls Tryz.prog 142 #[.int .i64 x] w fun r w' => r = .returned (.string (mk (intM x))) ∧ Below w.heap.size w w' := by
  go_enter Tryz.func142, Tryz.ntmps142
  go_wp2_with fail
  refine (itoaC x _ hx rfl w hw).mono ?_
  rintro e w1 ⟨rfl, b1⟩
  have hz : (mk (intD x)).size ≤ 20 := by rw [mk_size']; exact (length_intD x hx).2
  go_wp2
  go_ret
  refine ⟨ret_text ?_, b1⟩
  show mk [105] ++ mk (intD x) ++ mk [59] = _
  rw [mk_app, mk_app]
  rfl
set_option maxRecDepth 20000 in
theorem bytesC (s : ByteArray) (hs : s.size ≤ 140737488355328) (w : World) (hw : Home w) : Calls Tryz.prog 145 #[.string s] w fun r w' => r = .returned (.string (mk (bytesM (bl s)))) ∧ Below w.heap.size w w' := by
  go_enter Tryz.func145, Tryz.ntmps145
  go_wp2_with fail
  refine (itoaC _ (dig s.size) ⟨by omega, by omega⟩ (intD_nat _) w hw).mono ?_
  rintro e w1 ⟨rfl, b1⟩
  have hz : (mk (dig s.size)).size ≤ 20 := by rw [mk_size']; exact length_dig _
  go_wp2
  go_ret
  refine ⟨ret_text ?_, b1⟩
  show mk [115] ++ mk (dig s.size) ++ mk [58] ++ s = _
  rw [← mk_of s, mk_app, mk_app, mk_app, bl_mk']
  unfold bytesM
  rw [bl_length, mk_of]
  simp
/-- A list of texts that lie somewhere. -/
theorem addr_lit {x : Addr} {w : World} {v : Value} (h : w.cell? x = some v) : x = ⟨x.block, x.off, none⟩ := by
  obtain ⟨b, o, sp⟩ := x
  cases sp with
  | none => rfl
  | some t =>
    exfalso
    unfold World.cell? at h
    split at h
    · simp at h
    · cases h
theorem join_flat (xs : List (List UInt8)) : Lib.join xs [] = xs.flatten := by
  cases xs with
  | nil => rfl
  | cons x r =>
    rw [Lib.join_cons]
    unfold Lib.joinTail
    rw [show (fun x : List UInt8 => ([] : List UInt8) ++ x) = id from rfl, List.map_id]
    rfl
theorem joinC (o : Option Addr) (cap : Nat) (ss : List ByteArray) (hc : ss.length ≤ cap) (hl : (flat ss).length ≤ 140737488355328) (hn : ss.length ≤ 140737488355328) (w : World) (h : IsTx w o ss) :
    Calls Tryz.prog 105 #[.slice o ss.length cap, .string ⟨#[]⟩] w fun r w' => r = .returned (.string (mk (flat ss))) ∧ Below w.heap.size w w' := by
  rcases h.2 with rfl | ⟨x, rfl, hx⟩
  · refine (Tryz.strings_Join_none o cap ⟨#[]⟩ w).mono ?_
    rintro e w' ⟨rfl, rfl⟩
    exact ⟨rfl, Below.refl _ _⟩
  · cases ss with
    | nil =>
      refine (Tryz.strings_Join_none (some x) cap ⟨#[]⟩ w).mono ?_
      rintro e w' ⟨rfl, rfl⟩
      exact ⟨rfl, Below.refl _ _⟩
    | cons s0 ss0 =>
      generalize hss : s0 :: ss0 = ss at *
      have h0 := hx 0 (by rw [← hss]; exact Nat.succ_pos _)
      rw [show x.add 0 = x from by unfold Addr.add; split <;> simp_all] at h0
      have ex := addr_lit h0
      have hbk := World.block_lt_of_cell? _ _ h0
      have e : Lib.join (ss.map (·.data.toList)) (⟨#[]⟩ : ByteArray).data.toList = flat ss := join_flat _
      have hcells : ∀ (j : Nat) y, ss[j]? = some y → w.cell? ⟨x.block, x.off + j, none⟩ = some (.string y) := by
        intro j y hj
        have hjl : j < ss.length := (List.getElem?_eq_some_iff.1 hj).1
        have := hx j hjl
        rw [ex] at this
        rw [List.getD_eq_getElem?_getD, hj, Addr.add_lit] at this
        exact this
      have := Tryz.strings_Join x.block x.off cap ss ⟨#[]⟩ w hcells hbk hn hc (by rw [e]; exact hl)
      rw [e, ← ex] at this
      exact this
set_option maxRecDepth 20000 in
theorem listC (o : Option Addr) (cap : Nat) (ss : List ByteArray) (hc : ss.length ≤ cap) (hl : (flat ss).length ≤ 140737488355328) (hn : ss.length ≤ 140737488355328) (w : World) (h : IsTx w o ss) :
    Calls Tryz.prog 146 #[.slice o ss.length cap] w fun r w' => r = .returned (.string (mk (listM (ss.map bl)))) ∧ Below w.heap.size w w' := by
  go_enter Tryz.func146, Tryz.ntmps146
  go_wp2_with fail
  refine (joinC o cap ss hc hl hn w h).mono ?_
  rintro e w1 ⟨rfl, b1⟩
  have hz : (mk (flat ss)).size ≤ 140737488355328 := by rw [mk_size']; exact hl
  go_wp2
  go_ret
  refine ⟨ret_text ?_, b1⟩
  show mk [91] ++ mk (flat ss) ++ mk [93] = _
  rw [mk_app, mk_app]
  rfl
set_option maxRecDepth 20000 in
theorem structC (o : Option Addr) (cap : Nat) (ss : List ByteArray) (hc : ss.length ≤ cap) (hl : (flat ss).length ≤ 140737488355328) (hn : ss.length ≤ 140737488355328) (w : World) (h : IsTx w o ss) :
    Calls Tryz.prog 148 #[.slice o ss.length cap] w fun r w' => r = .returned (.string (mk (structM (ss.map bl)))) ∧ Below w.heap.size w w' := by
  go_enter Tryz.func148, Tryz.ntmps148
  go_wp2_with fail
  refine (joinC o cap ss hc hl hn w h).mono ?_
  rintro e w1 ⟨rfl, b1⟩
  have hz : (mk (flat ss)).size ≤ 140737488355328 := by rw [mk_size']; exact hl
  go_wp2
  go_ret
  refine ⟨ret_text ?_, b1⟩
  show mk [123] ++ mk (flat ss) ++ mk [125] = _
  rw [mk_app, mk_app]
  rfl
/-- Texts held against the same texts. -/
theorem tx_at {w : World} {o : Option Addr} {ss : List ByteArray} (h : IsTx w o ss) (h1 : 1 ≤ ss.length) : ∃ x, o = some x ∧ LiesT w x ss := by
  rcases h.2 with rfl | h
  · cases h1
  · exact h
theorem same_no (t : ByteArray) : (t.toList != t.toList) = false := by rw [bne_eq_false_iff_eq]
set_option maxRecDepth 20000 in
set_option maxHeartbeats 800000 in
theorem sameTexts (o p : Option Addr) (c d : Nat) (ss : List ByteArray) (hn : ss.length ≤ 140737488355328) (w : World) (ho : Hid (IsTx w o ss)) (hp : Hid (IsTx w p ss)) :
    Calls Tryz.prog 22 #[.slice o ss.length c, .slice p ss.length d] w fun r w' => r = .returned (.bool true) ∧ Below w.heap.size w w' := by
  have hq : (((ss.length : Nat) : Int) != ((ss.length : Nat) : Int)) = false := by rw [bne_eq_false_iff_eq]
  go_enter Tryz.func22, Tryz.ntmps22
  go_wp2_with fail
  go_loopw [5] (fun t wr => ∃ k : Nat, k ≤ ss.length ∧ t = .int .i64 (k : Int) ∧ Below w.heap.size w wr) (fun t _ => ss.length - (intOf t).toNat)
  case atStart => exact ⟨0, Nat.zero_le _, rfl, Below.refl _ _⟩
  case round =>
    obtain ⟨k, hk, rfl, hbl⟩ := hrel
    by_cases hlt : k < ss.length
    · obtain ⟨x, rfl, hx⟩ := tx_at ho.out (by omega)
      obtain ⟨y, rfl, hy⟩ := tx_at hp.out (by omega)
      have c1 := Tree.cell_later hbl (hx k hlt)
      have c2 := Tree.cell_later hbl (hy k hlt)
      have hne := same_no (ss.getD k ByteArray.empty)
      have j0 : (0 : Int) ≤ (k : Int) := Int.natCast_nonneg _
      have j1 : (k : Int) < (ss.length : Int) := by omega
      clear hx hy
      generalize ss.getD k ByteArray.empty = u at *
      go_wp2_with fail
      go_quiet (fail)
      have HB : Hid (Below w.heap.size w (wr.drewN nq)) := below_drewN hbl nq
      clear hbl
      go_wp2
      go_roundw
      case rel => exact ⟨k + 1, by omega, by go_num, HB.out⟩
      case measure => simp [intOf]; omega
    · obtain rfl : k = ss.length := by omega
      go_wp2
      go_ret
      exact ⟨rfl, hbl⟩
end Go.Proofs.YtcpfhfdgfcilaaaGreatDoor.Val
namespace Go.Proofs.YtcpfhfdgfcilaaaGreatDoor.Val
open Go.ChangeShapes Go.WideShapes Go.ChangeAt Go.RowKit
open Texts

theorem info5 : (Tryz.prog.info? 5).map (fun i => (i.zero, i.size, i.bytes)) = some (some (.int .u8 0), 1, 1) := by kernel_rfl
/-- Bytes, as cells. -/
def bcells (l : List UInt8) : List Value := l.map fun b => .int .u8 ((b.toNat : Nat) : Int)
theorem bytes_back {w : World} {base n : Nat} {v : Value} {l : List UInt8} (h : w.ownsRow base 5 1 v n (bcells l)) (h0 : 0 < n) : (convert 42 9 v).run Tryz.prog w = .ok (.string (mk l)) w := by
  have hl : l.length = n := by have := h.1; simpa [bcells] using this
  rcases h.2 with ⟨_, hn⟩ | ⟨g, cap, cur, rfl, _, _, _⟩
  · omega
  · rw [← hl]
    refine run_convert_bytes_back w 42 9 5 ⟨g, 0, none⟩ cap l Tryz.underlying42 Tryz.underlying5 Tryz.underlying9 ?_
    intro j hj
    rw [Addr.add_lit, Nat.zero_add, h.cellAt j (by omega)]
    simp [bcells, hj]
theorem own_byte (w : World) (b : UInt8) : (w.alloc (.cells #[.int .u8 ((b.toNat : Nat) : Int)] 5)).ownsRow w.heap.size 5 1 (.slice (some ⟨w.heap.size, 0, none⟩) 1 1) 1 (bcells [b]) :=
  ⟨rfl, .inr ⟨w.heap.size, 1, #[.int .u8 ((b.toNat : Nat) : Int)], rfl, Nat.le_refl _, heap_alloc_new _ _, Nat.le_refl _, by unfold maxLen; omega, rfl, rfl⟩⟩
def nilOne : Value → Nat
  | .slice none _ _ => 1
  | _ => 0
theorem own_some {w : World} {base n : Nat} {v : Value} {l : List UInt8} (h : w.ownsRow base 5 1 v n (bcells l)) (h0 : 0 < n) : ∃ g cap, v = .slice (some ⟨g, 0, none⟩) n cap := by
  rcases h.2 with ⟨_, hn⟩ | ⟨g, cap, cur, rfl, _, _, _⟩
  · omega
  · exact ⟨g, cap, rfl⟩
theorem bcells_one (u : Value) (l : List UInt8) (h : u ∈ bcells l) : u.oneCell' = true := by
  obtain ⟨b, _, rfl⟩ := List.mem_map.1 h
  rfl
set_option maxRecDepth 20000 in
set_option maxHeartbeats 1600000 in
theorem decimalC (n : Nat) (hn : n ≤ 9223372036854775807) (w : World) :
    Calls Tryz.prog 89 #[.int .i64 (n : Int)] w fun r w' => r = .returned (.string (mk (dig n))) ∧ Below w.heap.size w w' := by
  obtain ⟨i5, hi, hz0, hz1, hz2⟩ := info_parts info5
  go_enter Tryz.func89, Tryz.ntmps89
  go_wp2_with fail
  go_loopw [3, 4] (fun t v wr => ∃ (m : Nat) (l : List UInt8), t = .int .u64 (m : Int) ∧ m ≤ n ∧ DigAt n m l ∧ (l = [] → v = .slice none 0 0) ∧ wr.ownsRow w.heap.size 5 1 v l.length (bcells l) ∧ Below w.heap.size w wr) (fun t v _ => (intOf t).toNat + nilOne v)
  case atStart => exact ⟨n, [], by go_num, Nat.le_refl _, DigAt.start n, fun _ => rfl, World.ownsRow_nil _ _ _ _, Below.refl _ _⟩
  case round =>
    obtain ⟨m, l, rfl, hm, hd, hnil, hown, hbl⟩ := hrel
    have HD : Hid (DigAt n m l) := hd
    have h20 := hd.length
    have HB : Hid (Below w.heap.size w wr) := hbl
    have HS : Hid (DigAt n (m / 10) (UInt8.ofNat (48 + m % 10) :: l) ∨ ¬ (0 < m ∨ l = [])) := by
      by_cases c : 0 < m ∨ l = []
      · exact .inl (hd.step (by omega) c)
      · exact .inr c
    have hu : ((UInt8.ofNat (48 + m % 10)).toNat : Int) = 48 + (m : Int) % 10 := by rw [byte_nat _ (by omega)]; omega
    clear hd
    by_cases hl : l = []
    · obtain rfl := hnil hl
      subst hl
      have HN := HS.out.resolve_right (fun c => c (.inr rfl))
      clear HS hown HD hnil
      rcases Nat.eq_zero_or_pos m with rfl | h0
      · have hu2 : ((UInt8.ofNat (48 + 0 % 10)).toNat : Int) = 48 := rfl
        clear hu
        generalize UInt8.ofNat (48 + 0 % 10) = b at *
        have HO : Hid ((wr.alloc (.cells #[.int .u8 ((b.toNat : Nat) : Int)] 5)).ownsRow w.heap.size 5 1 (.slice (some ⟨wr.heap.size, 0, none⟩) 1 1) 1 (bcells [b])) := Tree.own_mono (own_byte wr b) HB.out.size
        rw [hu2] at HO
        go_wp2_with (at_builtin; refine wpList_append_own_none rfl (.tmp 25) (.tmp 26) 42 rfl w.heap.size 5 i5 1 Tryz.underlying42 hi _ 1 _ rfl HO.out rfl ?_)
        go_wp2
        go_roundw
        case rel => exact ⟨_, [b], by go_num, by omega, HN, (fun c => by cases c), HO.out, HB.out.alloc HB.out.size _⟩
        case measure => simp [intOf, nilOne]
      · generalize UInt8.ofNat (48 + m % 10) = b at *
        have HO : Hid ((wr.alloc (.cells #[.int .u8 ((b.toNat : Nat) : Int)] 5)).ownsRow w.heap.size 5 1 (.slice (some ⟨wr.heap.size, 0, none⟩) 1 1) 1 (bcells [b])) := Tree.own_mono (own_byte wr b) HB.out.size
        rw [hu] at HO
        go_wp2_with (at_builtin; refine wpList_append_own_none rfl (.tmp 25) (.tmp 26) 42 rfl w.heap.size 5 i5 1 Tryz.underlying42 hi _ 1 _ rfl HO.out rfl ?_)
        go_wp2
        go_roundw
        case rel => exact ⟨_, [b], by go_num, by omega, HN, (fun c => by cases c), HO.out, HB.out.alloc HB.out.size _⟩
        case measure => simp [intOf, nilOne]; omega
    · by_cases h0 : 0 < m
      · have HN : Hid (DigAt n (m / 10) (UInt8.ofNat (48 + m % 10) :: l)) := HS.out.resolve_right (fun c => c (.inl h0))
        have hl1 : 1 ≤ l.length := by cases l with | nil => exact absurd rfl hl | cons _ _ => exact Nat.succ_pos _
        clear HS HD hnil
        obtain ⟨g, cap, rfl⟩ := own_some hown hl1
        have HOWN : Hid (wr.ownsRow w.heap.size 5 1 (.slice (some ⟨g, 0, none⟩) l.length cap) l.length (bcells l)) := hown
        clear hown hl hbl
        generalize UInt8.ofNat (48 + m % 10) = b at *
        have HO : Hid ((wr.alloc (.cells #[.int .u8 ((b.toNat : Nat) : Int)] 5)).ownsRow w.heap.size 5 1 (.slice (some ⟨wr.heap.size, 0, none⟩) 1 1) 1 (bcells [b])) := Tree.own_mono (own_byte wr b) HB.out.size
        rw [hu] at HO
        go_wp2_with (at_builtin; refine wpList_append_own _ rfl (.tmp 25) (.tmp 26) 42 rfl w.heap.size 5 i5 (.int .u8 0) 1 1 Tryz.underlying42 hi hz0 hz1 hz2 rfl (by decide) _ 1 _ rfl HO.out ⟨g, 0, none⟩ l.length cap (bcells l) rfl ?c0 ?c1 ?c2 ?c3 ?c4 ?c5 ?_)
        case c0 => simp [bcells]
        case c1 => exact (HOWN.out.alloc _).cells rfl
        case c2 => exact fun u hu => bcells_one u l hu
        case c3 => unfold maxLen; omega
        case c4 => omega
        case c5 => have := HB.out.size; simp; omega
        intro v' w3 hown' hgrow _
        have HB3 : Hid (Below w.heap.size w w3) := (HB.out.alloc HB.out.size _).grown hgrow (by have := HB.out.size; simp; omega) (fun j hj => (HO.out.lt j hj).1)
        have HO3 : Hid (w3.ownsRow w.heap.size 5 1 v' (b :: l).length (bcells (b :: l))) := by
          unfold Hid
          rw [List.length_cons, Nat.add_comm]
          exact hown'
        obtain ⟨g3, cap3, rfl⟩ := own_some HO3.out (Nat.succ_pos _)
        clear hown' hgrow HO HOWN hu
        go_wp2
        go_roundw
        case rel => exact ⟨m / 10, b :: l, by go_num, by omega, HN.out, (fun c => by cases c), HO3.out, HB3.out⟩
        case measure => simp [intOf, nilOne]; omega
      · obtain rfl : m = 0 := by omega
        have HL : Hid (l = dig n) := HD.out.stop (fun c => by rcases c with c | c; omega; exact hl c)
        have hl1 : 1 ≤ l.length := by cases l with | nil => exact absurd rfl hl | cons _ _ => exact Nat.succ_pos _
        have hbk := bytes_back hown hl1
        obtain ⟨g, cap, rfl⟩ := own_some hown hl1
        clear HS HD hnil hown hu hl hbl h0
        have hne : (((l.length : Nat) : Int) == 0) = false := by rw [beq_eq_false_iff_ne]; omega
        go_wp2
        go_ret
        exact ⟨by rw [HL.out]; rfl, HB.out⟩
/-- A loop over what is below 0. -/
theorem ofNat_dig (m : Nat) : ((UInt8.ofNat (48 + m % 10)).toNat : Int) = 48 + (m : Int) % 10 := by rw [byte_nat _ (by omega)]; omega
set_option maxRecDepth 20000 in
set_option maxHeartbeats 1600000 in
theorem digitsC (x : Int) (hx : in64 x) (w : World) :
    Calls Tryz.prog 57 #[.int .i64 x] w fun r w' => r = .returned (.string (mk (intD x))) ∧ Below w.heap.size w w' := by
  by_cases h0 : 0 ≤ x
  · obtain ⟨n, rfl⟩ := Int.eq_ofNat_of_zero_le h0
    have HI : Hid (intD (n : Int) = dig n) := intD_nat n
    have hn : n ≤ 9223372036854775807 := by have := hx.2; omega
    clear hx h0
    go_enter Tryz.func57, Tryz.ntmps57
    go_wp2_with fail
    refine (decimalC n hn w).mono ?_
    rintro e w1 ⟨rfl, b1⟩
    go_wp2
    go_ret
    exact ⟨by rw [HI.out]; rfl, b1⟩
  · obtain ⟨n, rfl⟩ : ∃ n : Nat, x = -(n : Int) := ⟨(-x).toNat, by omega⟩
    have hn : n ≤ 9223372036854775808 := by have := hx.1; omega
    have h1 : 1 ≤ n := by omega
    have HI : Hid (intD (-(n : Int)) = 45 :: dig n) := by
      unfold Hid intD
      rw [if_neg (by omega), Int.neg_neg, Int.toNat_natCast]
    clear hx h0
    go_enter Tryz.func57, Tryz.ntmps57
    go_wp2_with fail
    go_loopw [0, 3] (fun t v wr => ∃ (m : Nat) (l : List UInt8), t = .int .i64 (-(m : Int)) ∧ m ≤ n ∧ DigAt n m l ∧ v = .string (mk l) ∧ Below w.heap.size w wr) (fun t _ _ => (-(intOf t)).toNat)
    case atStart => exact ⟨n, [], rfl, Nat.le_refl _, DigAt.start n, rfl, Below.refl _ _⟩
    case round =>
      obtain ⟨m, l, rfl, hm, hd, rfl, hbl⟩ := hrel
      have HB : Hid (Below w.heap.size w wr) := hbl
      have h20 := hd.length
      have hz : (mk l).size ≤ 20 := by rw [mk_size']; exact h20
      by_cases h0 : 0 < m
      · have HN : Hid (DigAt n (m / 10) (UInt8.ofNat (48 + m % 10) :: l)) := hd.step (by omega) (.inl h0)
        have hu := ofNat_dig m
        clear hd hbl h20
        generalize UInt8.ofNat (48 + m % 10) = b at *
        have hbk := bytes_back (own_byte wr b) (by omega)
        rw [hu] at hbk
        have hz1 : (mk [b]).size = 1 := rfl
        go_wp2
        go_roundw
        case rel => exact ⟨m / 10, b :: l, by go_num, by omega, HN.out, congrArg Value.string (mk_app [b] l), HB.out.alloc HB.out.size _⟩
        case measure => simp [intOf]; omega
      · obtain rfl : m = 0 := by omega
        have HL : Hid (l = dig n) := hd.stop (fun c => by
          rcases c with c | c
          · omega
          · subst c
            rcases hd with ⟨_, h⟩ | ⟨h, _⟩ | ⟨h, _⟩
            · omega
            · exact h rfl
            · exact h rfl)
        clear hd h20 hbl
        go_wp2
        go_ret
        refine ⟨ret_text ?_, HB.out⟩
        rw [HI.out, ← HL.out]
        show mk [45] ++ mk l = _
        rw [mk_app]
        rfl
set_option maxRecDepth 20000 in
theorem intR (x : Int) (hx : in64 x) (w : World) : Calls Tryz.prog 24 #[.int .i64 x] w fun r w' => r = .returned (.string (mk (intM x))) ∧ Below w.heap.size w w' := by
  go_enter Tryz.func24, Tryz.ntmps24
  go_wp2_with fail
  refine (digitsC x hx w).mono ?_
  rintro e w1 ⟨rfl, b1⟩
  have hz : (mk (intD x)).size ≤ 20 := by rw [mk_size']; exact (length_intD x hx).2
  go_wp2
  go_ret
  refine ⟨ret_text ?_, b1⟩
  show mk [105] ++ mk (intD x) ++ mk [59] = _
  rw [mk_app, mk_app]
  rfl
theorem boolR (b : Bool) (w : World) : Calls Tryz.prog 116 #[.bool b] w fun r w' => r = .returned (.string (mk (boolM b))) ∧ w' = w := by
  cases b
  all_goals
    go_enter Tryz.func116, Tryz.ntmps116
    go_wp2
    go_ret
    exact ⟨rfl, rfl⟩
set_option maxRecDepth 20000 in
theorem bytesR (s : ByteArray) (hs : s.size ≤ 140737488355328) (w : World) : Calls Tryz.prog 118 #[.string s] w fun r w' => r = .returned (.string (mk (bytesM (bl s)))) ∧ Below w.heap.size w w' := by
  go_enter Tryz.func118, Tryz.ntmps118
  go_wp2_with fail
  refine (decimalC s.size (by omega) w).mono ?_
  rintro e w1 ⟨rfl, b1⟩
  have hz : (mk (dig s.size)).size ≤ 20 := by rw [mk_size']; exact length_dig _
  go_wp2
  go_ret
  refine ⟨ret_text ?_, b1⟩
  show mk [115] ++ mk (dig s.size) ++ mk [58] ++ s = _
  rw [← mk_of s, mk_app, mk_app, mk_app, bl_mk']
  unfold bytesM
  rw [bl_length, mk_of]
  simp
theorem flat_snoc (ss : List ByteArray) (i : Nat) (h : i < ss.length) : flat (ss.take (i + 1)) = flat (ss.take i) ++ bl (ss.getD i ByteArray.empty) := by
  unfold flat
  rw [List.take_succ_eq_append_getElem h, List.map_append, List.flatten_append, List.getD_eq_getElem?_getD, List.getElem?_eq_getElem h]
  simp
theorem flat_len_le (ss : List ByteArray) (i : Nat) : (flat (ss.take i)).length ≤ (flat ss).length := by
  have e : flat ss = flat (ss.take i) ++ flat (ss.drop i) := by
    unfold flat
    rw [← List.flatten_append, ← List.map_append, List.take_append_drop]
  rw [e, List.length_append]
  omega
set_option maxRecDepth 20000 in
set_option maxHeartbeats 800000 in
theorem allR (o : Option Addr) (cap : Nat) (ss : List ByteArray) (hl : (flat ss).length ≤ 140737488355328) (hn : ss.length ≤ 140737488355328) (w : World) (h : Hid (IsTx w o ss)) :
    Calls Tryz.prog 67 #[.slice o ss.length cap] w fun r w' => r = .returned (.string (mk (flat ss))) ∧ w' = w := by
  have HL : Hid (∀ i, (flat (ss.take i)).length ≤ (flat ss).length) := flat_len_le ss
  have HF : Hid (∀ i, i < ss.length → flat (ss.take (i + 1)) = flat (ss.take i) ++ bl (ss.getD i ByteArray.empty)) := flat_snoc ss
  go_enter Tryz.func67, Tryz.ntmps67
  go_wp2_with fail
  go_loop [3, 4] (fun v t => ∃ k : Nat, k ≤ ss.length ∧ t = .int .i64 (k : Int) ∧ v = .string (mk (flat (ss.take k)))) (fun _ t => ss.length - (intOf t).toNat)
  case atStart => exact ⟨0, Nat.zero_le _, rfl, rfl⟩
  case round =>
    obtain ⟨k, hk, rfl, rfl⟩ := hrel
    by_cases hlt : k < ss.length
    · obtain ⟨x, rfl, hx⟩ := tx_at h.out (by omega)
      have c1 := hx k hlt
      have HFK : Hid _ := HF.out k hlt
      have z0 := HL.out (k + 1)
      rw [HFK.out, List.length_append, bl_length] at z0
      have z1 : (mk (flat (ss.take k))).size + (ss.getD k ByteArray.empty).size ≤ 140737488355328 := by rw [mk_size']; omega
      have z2 : (mk (flat (ss.take k))).size ≤ 140737488355328 := by omega
      have z3 : (ss.getD k ByteArray.empty).size ≤ 140737488355328 := by omega
      clear hx z0
      generalize ss.getD k ByteArray.empty = u at *
      go_wp2
      go_round
      case rel => exact ⟨k + 1, by omega, by go_num, congrArg Value.string (by rw [HFK.out, ← mk_app, mk_of])⟩
      case measure => simp [intOf]; omega
    · obtain rfl : k = ss.length := by omega
      go_wp2
      go_ret
      exact ⟨rfl, rfl⟩
set_option maxRecDepth 20000 in
theorem listR (o : Option Addr) (cap : Nat) (ss : List ByteArray) (hl : (flat ss).length ≤ 140737488355328) (hn : ss.length ≤ 140737488355328) (w : World) (h : Hid (IsTx w o ss)) :
    Calls Tryz.prog 41 #[.slice o ss.length cap] w fun r w' => r = .returned (.string (mk (listM (ss.map bl)))) ∧ w' = w := by
  go_enter Tryz.func41, Tryz.ntmps41
  go_wp2_with fail
  refine (allR o cap ss hl hn w h).mono ?_
  rintro e w1 ⟨rfl, rfl⟩
  have hz : (mk (flat ss)).size ≤ 140737488355328 := by rw [mk_size']; exact hl
  go_wp2
  go_ret
  refine ⟨ret_text ?_, rfl⟩
  show mk [91] ++ mk (flat ss) ++ mk [93] = _
  rw [mk_app, mk_app]
  rfl
set_option maxRecDepth 20000 in
theorem structR (o : Option Addr) (cap : Nat) (ss : List ByteArray) (hl : (flat ss).length ≤ 140737488355328) (hn : ss.length ≤ 140737488355328) (w : World) (h : Hid (IsTx w o ss)) :
    Calls Tryz.prog 119 #[.slice o ss.length cap] w fun r w' => r = .returned (.string (mk (structM (ss.map bl)))) ∧ w' = w := by
  go_enter Tryz.func119, Tryz.ntmps119
  go_wp2_with fail
  refine (allR o cap ss hl hn w h).mono ?_
  rintro e w1 ⟨rfl, rfl⟩
  have hz : (mk (flat ss)).size ≤ 140737488355328 := by rw [mk_size']; exact hl
  go_wp2
  go_ret
  refine ⟨ret_text ?_, rfl⟩
  show mk [123] ++ mk (flat ss) ++ mk [125] = _
  rw [mk_app, mk_app]
  rfl
end Go.Proofs.YtcpfhfdgfcilaaaGreatDoor.Val
namespace Go.Proofs.YtcpfhfdgfcilaaaGreatDoor.Arr
open Go.ChangeShapes Go.WideShapes Go.ChangeAt Go.RowKit
open Tree Val

theorem signed_w64 (x : Nat) (h : x < 18446744073709551616) : wrap64 (x : Int) = signed x := by
  unfold signed wrap64
  split <;> omega
end Go.Proofs.YtcpfhfdgfcilaaaGreatDoor.Arr
namespace Go.Proofs.YtcpfhfdgfcilaaaGreatDoor.Arr
open Tree Val Sums

theorem rowF_succ (ns : List Nd) (f n : Nat) (a : Arr) (row : Nat) : rowF ns (f + 1) n a row = if there a (row + a.offset.toNat) = false then nullM
    else if a.layout = 0 then plainRow (rowF ns f) ns n a (row + a.offset.toNat)
    else if a.layout = 1 then rowF ns f n (kidAt a 0) (endAt a.data (row + a.offset.toNat))
    else rowF ns f n (kidAt a 0) (runAt a.data (row + a.offset.toNat) (kidAt a 0).length.toNat 0) := rfl
end Go.Proofs.YtcpfhfdgfcilaaaGreatDoor.Arr
set_option linter.unusedVariables false
set_option linter.unusedSimpArgs false
namespace Go.Proofs.YtcpfhfdgfcilaaaGreatDoor.Arr
open Go.ChangeShapes Go.WideShapes Go.ChangeAt Go.RowKit
open Tree Val

theorem ret_str {s t : ByteArray} (h : s = t) : Ending.returned (.string s) = .returned (.string t) := by rw [h]
theorem dict_has {a : Arr} {ns : List Nd} {n : Nat} (hh : Head ns n a) (h : dictB a = true) {row : Nat} (hr : (row : Int) < a.length) (ht : there a (row + a.offset.toNat) = true) : has4 a.data (row + a.offset.toNat) = true := by
  unfold dictB at h
  simp only [Bool.and_eq_true, decide_eq_true_eq, List.all_eq_true, Bool.or_eq_true, Bool.not_eq_true'] at h
  have h1 := hh.off
  have := h.2 (row + a.offset.toNat) (List.mem_range.2 (by unfold rowsOf; omega))
  rcases this with c | c
  · rcases c with c | c
    · omega
    · rw [c] at ht; cases ht
  · exact c.1
theorem run_has {a : Arr} {ns : List Nd} {n : Nat} (hh : Head ns n a) (h : runB a = true) {row : Nat} (hr : (row : Int) < a.length) : (∀ k, k < (kidAt a 0).length.toNat → has4 a.data k = true) ∧ (kidAt a 0).length.toNat ≠ 0 ∧ row + a.offset.toNat < endAt a.data ((kidAt a 0).length.toNat - 1) := by
  unfold runB at h
  simp only [Bool.and_eq_true, decide_eq_true_eq, List.all_eq_true] at h
  have h1 := hh.off
  have h2 := h.2
  unfold rowsOf prev at h2
  have hk : (kidAt a 0).length.toNat ≠ 0 := fun e => by rw [if_pos e] at h2; omega
  rw [if_neg hk] at h2
  exact ⟨fun k hk => (h.1.2 k (List.mem_range.2 hk)).1, hk, by omega⟩
end Go.Proofs.YtcpfhfdgfcilaaaGreatDoor.Arr
