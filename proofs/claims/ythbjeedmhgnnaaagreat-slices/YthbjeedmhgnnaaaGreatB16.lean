/-
  Several texts in one: Digits and made values, as the document's own answers lay them: contracts. · Where a value ends, as the document's own answer looks for it: contracts. · Where a value ends, as the document's own answer looks for it, at each depth: contracts.
-/
import Derived.Test.YthbjeedmhgnnaaaGreatB03
import Derived.Test.YthbjeedmhgnnaaaGreatB15
import Derived.Laws.AppendOwnNone
import Derived.Laws.IdiomStrings
import Derived.Deep.CutBlock
namespace Go.Proofs.YthbjeedmhgnnaaaGreat.Val
open Go.ChangeShapes Go.WideShapes Go.ChangeAt Go.RowKit
open Texts

theorem info5 : (Tryz.prog.info? 5).map (fun i => (i.zero, i.size, i.bytes)) = some (some (.int .u8 0), 1, 1) := by kernel_rfl
/-- Bytes, as cells. -/
def bcells (l : List UInt8) : List Value := l.map fun b => .int .u8 ((b.toNat : Nat) : Int)
theorem bytes_back {w : World} {base n : Nat} {v : Value} {l : List UInt8} (h : w.ownsRow base 5 1 v n (bcells l)) (h0 : 0 < n) : (convert 37 9 v).run Tryz.prog w = .ok (.string (mk l)) w := by
  have hl : l.length = n := by have := h.1; simpa [bcells] using this
  rcases h.2 with ⟨_, hn⟩ | ⟨g, cap, cur, rfl, _, _, _⟩
  · omega
  · rw [← hl]
    refine run_convert_bytes_back w 37 9 5 ⟨g, 0, none⟩ cap l Tryz.underlying37 Tryz.underlying5 Tryz.underlying9 ?_
    intro j hj
    rw [Addr.add_lit, Nat.zero_add, h.cellAt j (by omega)]
    simp [bcells, hj]
theorem own_byte (w : World) (b : UInt8) : (w.alloc (.cells #[.int .u8 ((b.toNat : Nat) : Int)] 5)).ownsRow w.heap.size 5 1 (.slice (some ⟨w.heap.size, 0, none⟩) 1 1) 1 (bcells [b]) :=
  ⟨rfl, .inr ⟨w.heap.size, 1, #[.int .u8 ((b.toNat : Nat) : Int)], rfl, Nat.le_refl _, heap_alloc_new _ _, Nat.le_refl _, by unfold maxLen; omega, rfl, rfl⟩⟩
def nilOne : Value → Nat
  | .slice none _ _ => 1
  | _ => 0
theorem own_some {w : World} {base n : Nat} {v : Value} {l : List UInt8} (h : w.ownsRow base 5 1 v n (bcells l)) (h0 : 0 < n) : ∃ g cap, v = .slice (some ⟨g, 0, none⟩) n cap := by
  rcases h.2 with ⟨_, hn⟩ | ⟨g, cap, cur, rfl, _, _, _⟩
  · omega
  · exact ⟨g, cap, rfl⟩
theorem bcells_one (u : Value) (l : List UInt8) (h : u ∈ bcells l) : u.oneCell' = true := by
  obtain ⟨b, _, rfl⟩ := List.mem_map.1 h
  rfl
set_option maxRecDepth 20000 in
set_option maxHeartbeats 1600000 in
theorem decimalC (n : Nat) (hn : n ≤ 9223372036854775807) (w : World) :
    Calls Tryz.prog 102 #[.int .i64 (n : Int)] w fun r w' => r = .returned (.string (mk (dig n))) ∧ Below w.heap.size w w' := by
  obtain ⟨i5, hi, hz0, hz1, hz2⟩ := info_parts info5
  go_enter Tryz.func102, Tryz.ntmps102
  go_wp2_with fail
  go_loopw [3, 4] (fun t v wr => ∃ (m : Nat) (l : List UInt8), t = .int .u64 (m : Int) ∧ m ≤ n ∧ DigAt n m l ∧ (l = [] → v = .slice none 0 0) ∧ wr.ownsRow w.heap.size 5 1 v l.length (bcells l) ∧ Below w.heap.size w wr) (fun t v _ => (intOf t).toNat + nilOne v)
  case atStart => exact ⟨n, [], by go_num, Nat.le_refl _, DigAt.start n, fun _ => rfl, World.ownsRow_nil _ _ _ _, Below.refl _ _⟩
  case round =>
    obtain ⟨m, l, rfl, hm, hd, hnil, hown, hbl⟩ := hrel
    have HD : Hid (DigAt n m l) := hd
    have h20 := hd.length
    have HB : Hid (Below w.heap.size w wr) := hbl
    have HS : Hid (DigAt n (m / 10) (UInt8.ofNat (48 + m % 10) :: l) ∨ ¬ (0 < m ∨ l = [])) := by
      by_cases c : 0 < m ∨ l = []
      · exact .inl (hd.step (by omega) c)
      · exact .inr c
    have hu : ((UInt8.ofNat (48 + m % 10)).toNat : Int) = 48 + (m : Int) % 10 := by rw [byte_nat _ (by omega)]; omega
    clear hd
    by_cases hl : l = []
    · obtain rfl := hnil hl
      subst hl
      have HN := HS.out.resolve_right (fun c => c (.inr rfl))
      clear HS hown HD hnil
      rcases Nat.eq_zero_or_pos m with rfl | h0
      · have hu2 : ((UInt8.ofNat (48 + 0 % 10)).toNat : Int) = 48 := rfl
        clear hu
        generalize UInt8.ofNat (48 + 0 % 10) = b at *
        have HO : Hid ((wr.alloc (.cells #[.int .u8 ((b.toNat : Nat) : Int)] 5)).ownsRow w.heap.size 5 1 (.slice (some ⟨wr.heap.size, 0, none⟩) 1 1) 1 (bcells [b])) := Tree.own_mono (own_byte wr b) HB.out.size
        rw [hu2] at HO
        go_wp2_with (at_builtin; refine wpList_append_own_none rfl (.tmp 25) (.tmp 26) 37 rfl w.heap.size 5 i5 1 Tryz.underlying37 hi _ 1 _ rfl HO.out rfl ?_)
        go_wp2
        go_roundw
        case rel => exact ⟨_, [b], by go_num, by omega, HN, (fun c => by cases c), HO.out, HB.out.alloc HB.out.size _⟩
        case measure => simp [intOf, nilOne]
      · generalize UInt8.ofNat (48 + m % 10) = b at *
        have HO : Hid ((wr.alloc (.cells #[.int .u8 ((b.toNat : Nat) : Int)] 5)).ownsRow w.heap.size 5 1 (.slice (some ⟨wr.heap.size, 0, none⟩) 1 1) 1 (bcells [b])) := Tree.own_mono (own_byte wr b) HB.out.size
        rw [hu] at HO
        go_wp2_with (at_builtin; refine wpList_append_own_none rfl (.tmp 25) (.tmp 26) 37 rfl w.heap.size 5 i5 1 Tryz.underlying37 hi _ 1 _ rfl HO.out rfl ?_)
        go_wp2
        go_roundw
        case rel => exact ⟨_, [b], by go_num, by omega, HN, (fun c => by cases c), HO.out, HB.out.alloc HB.out.size _⟩
        case measure => simp [intOf, nilOne]; omega
    · by_cases h0 : 0 < m
      · have HN : Hid (DigAt n (m / 10) (UInt8.ofNat (48 + m % 10) :: l)) := HS.out.resolve_right (fun c => c (.inl h0))
        have hl1 : 1 ≤ l.length := by cases l with | nil => exact absurd rfl hl | cons _ _ => exact Nat.succ_pos _
        clear HS HD hnil
        obtain ⟨g, cap, rfl⟩ := own_some hown hl1
        have HOWN : Hid (wr.ownsRow w.heap.size 5 1 (.slice (some ⟨g, 0, none⟩) l.length cap) l.length (bcells l)) := hown
        clear hown hl hbl
        generalize UInt8.ofNat (48 + m % 10) = b at *
        have HO : Hid ((wr.alloc (.cells #[.int .u8 ((b.toNat : Nat) : Int)] 5)).ownsRow w.heap.size 5 1 (.slice (some ⟨wr.heap.size, 0, none⟩) 1 1) 1 (bcells [b])) := Tree.own_mono (own_byte wr b) HB.out.size
        rw [hu] at HO
        go_wp2_with (at_builtin; refine wpList_append_own _ rfl (.tmp 25) (.tmp 26) 37 rfl w.heap.size 5 i5 (.int .u8 0) 1 1 Tryz.underlying37 hi hz0 hz1 hz2 rfl (by decide) _ 1 _ rfl HO.out ⟨g, 0, none⟩ l.length cap (bcells l) rfl ?c0 ?c1 ?c2 ?c3 ?c4 ?c5 ?_)
        case c0 => simp [bcells]
        case c1 => exact (HOWN.out.alloc _).cells rfl
        case c2 => exact fun u hu => bcells_one u l hu
        case c3 => unfold maxLen; omega
        case c4 => omega
        case c5 => have := HB.out.size; simp; omega
        intro v' w3 hown' hgrow _
        have HB3 : Hid (Below w.heap.size w w3) := (HB.out.alloc HB.out.size _).grown hgrow (by have := HB.out.size; simp; omega) (fun j hj => (HO.out.lt j hj).1)
        have HO3 : Hid (w3.ownsRow w.heap.size 5 1 v' (b :: l).length (bcells (b :: l))) := by
          unfold Hid
          rw [List.length_cons, Nat.add_comm]
          exact hown'
        obtain ⟨g3, cap3, rfl⟩ := own_some HO3.out (Nat.succ_pos _)
        clear hown' hgrow HO HOWN hu
        go_wp2
        go_roundw
        case rel => exact ⟨m / 10, b :: l, by go_num, by omega, HN.out, (fun c => by cases c), HO3.out, HB3.out⟩
        case measure => simp [intOf, nilOne]; omega
      · obtain rfl : m = 0 := by omega
        have HL : Hid (l = dig n) := HD.out.stop (fun c => by rcases c with c | c; omega; exact hl c)
        have hl1 : 1 ≤ l.length := by cases l with | nil => exact absurd rfl hl | cons _ _ => exact Nat.succ_pos _
        have hbk := bytes_back hown hl1
        obtain ⟨g, cap, rfl⟩ := own_some hown hl1
        clear HS HD hnil hown hu hl hbl h0
        have hne : (((l.length : Nat) : Int) == 0) = false := by rw [beq_eq_false_iff_ne]; omega
        go_wp2
        go_ret
        exact ⟨by rw [HL.out]; rfl, HB.out⟩
/-- A loop over what is below 0. -/
theorem ofNat_dig (m : Nat) : ((UInt8.ofNat (48 + m % 10)).toNat : Int) = 48 + (m : Int) % 10 := by rw [byte_nat _ (by omega)]; omega
set_option maxRecDepth 20000 in
set_option maxHeartbeats 1600000 in
theorem digitsC (x : Int) (hx : in64 x) (w : World) :
    Calls Tryz.prog 91 #[.int .i64 x] w fun r w' => r = .returned (.string (mk (intD x))) ∧ Below w.heap.size w w' := by
  by_cases h0 : 0 ≤ x
  · obtain ⟨n, rfl⟩ := Int.eq_ofNat_of_zero_le h0
    have HI : Hid (intD (n : Int) = dig n) := intD_nat n
    have hn : n ≤ 9223372036854775807 := by have := hx.2; omega
    clear hx h0
    go_enter Tryz.func91, Tryz.ntmps91
    go_wp2_with fail
    refine (decimalC n hn w).mono ?_
    rintro e w1 ⟨rfl, b1⟩
    go_wp2
    go_ret
    exact ⟨by rw [HI.out]; rfl, b1⟩
  · obtain ⟨n, rfl⟩ : ∃ n : Nat, x = -(n : Int) := ⟨(-x).toNat, by omega⟩
    have hn : n ≤ 9223372036854775808 := by have := hx.1; omega
    have h1 : 1 ≤ n := by omega
    have HI : Hid (intD (-(n : Int)) = 45 :: dig n) := by
      unfold Hid intD
      rw [if_neg (by omega), Int.neg_neg, Int.toNat_natCast]
    clear hx h0
    go_enter Tryz.func91, Tryz.ntmps91
    go_wp2_with fail
    go_loopw [0, 3] (fun t v wr => ∃ (m : Nat) (l : List UInt8), t = .int .i64 (-(m : Int)) ∧ m ≤ n ∧ DigAt n m l ∧ v = .string (mk l) ∧ Below w.heap.size w wr) (fun t _ _ => (-(intOf t)).toNat)
    case atStart => exact ⟨n, [], rfl, Nat.le_refl _, DigAt.start n, rfl, Below.refl _ _⟩
    case round =>
      obtain ⟨m, l, rfl, hm, hd, rfl, hbl⟩ := hrel
      have HB : Hid (Below w.heap.size w wr) := hbl
      have h20 := hd.length
      have hz : (mk l).size ≤ 20 := by rw [mk_size']; exact h20
      by_cases h0 : 0 < m
      · have HN : Hid (DigAt n (m / 10) (UInt8.ofNat (48 + m % 10) :: l)) := hd.step (by omega) (.inl h0)
        have hu := ofNat_dig m
        clear hd hbl h20
        generalize UInt8.ofNat (48 + m % 10) = b at *
        have hbk := bytes_back (own_byte wr b) (by omega)
        rw [hu] at hbk
        have hz1 : (mk [b]).size = 1 := rfl
        go_wp2
        go_roundw
        case rel => exact ⟨m / 10, b :: l, by go_num, by omega, HN.out, congrArg Value.string (mk_app [b] l), HB.out.alloc HB.out.size _⟩
        case measure => simp [intOf]; omega
      · obtain rfl : m = 0 := by omega
        have HL : Hid (l = dig n) := hd.stop (fun c => by
          rcases c with c | c
          · omega
          · subst c
            rcases hd with ⟨_, h⟩ | ⟨h, _⟩ | ⟨h, _⟩
            · omega
            · exact h rfl
            · exact h rfl)
        clear hd h20 hbl
        go_wp2
        go_ret
        refine ⟨ret_text ?_, HB.out⟩
        rw [HI.out, ← HL.out]
        show mk [45] ++ mk l = _
        rw [mk_app]
        rfl
set_option maxRecDepth 20000 in
theorem intR (x : Int) (hx : in64 x) (w : World) : Calls Tryz.prog 77 #[.int .i64 x] w fun r w' => r = .returned (.string (mk (intM x))) ∧ Below w.heap.size w w' := by
  go_enter Tryz.func77, Tryz.ntmps77
  go_wp2_with fail
  refine (digitsC x hx w).mono ?_
  rintro e w1 ⟨rfl, b1⟩
  have hz : (mk (intD x)).size ≤ 20 := by rw [mk_size']; exact (length_intD x hx).2
  go_wp2
  go_ret
  refine ⟨ret_text ?_, b1⟩
  show mk [105] ++ mk (intD x) ++ mk [59] = _
  rw [mk_app, mk_app]
  rfl
theorem boolR (b : Bool) (w : World) : Calls Tryz.prog 78 #[.bool b] w fun r w' => r = .returned (.string (mk (boolM b))) ∧ w' = w := by
  cases b
  all_goals
    go_enter Tryz.func78, Tryz.ntmps78
    go_wp2
    go_ret
    exact ⟨rfl, rfl⟩
set_option maxRecDepth 20000 in
theorem bytesR (s : ByteArray) (hs : s.size ≤ 140737488355328) (w : World) : Calls Tryz.prog 81 #[.string s] w fun r w' => r = .returned (.string (mk (bytesM (bl s)))) ∧ Below w.heap.size w w' := by
  go_enter Tryz.func81, Tryz.ntmps81
  go_wp2_with fail
  refine (decimalC s.size (by omega) w).mono ?_
  rintro e w1 ⟨rfl, b1⟩
  have hz : (mk (dig s.size)).size ≤ 20 := by rw [mk_size']; exact length_dig _
  go_wp2
  go_ret
  refine ⟨ret_text ?_, b1⟩
  show mk [115] ++ mk (dig s.size) ++ mk [58] ++ s = _
  rw [← mk_of s, mk_app, mk_app, mk_app, bl_mk']
  unfold bytesM
  rw [bl_length, mk_of]
  simp
theorem flat_snoc (ss : List ByteArray) (i : Nat) (h : i < ss.length) : flat (ss.take (i + 1)) = flat (ss.take i) ++ bl (ss.getD i ByteArray.empty) := by
  unfold flat
  rw [List.take_succ_eq_append_getElem h, List.map_append, List.flatten_append, List.getD_eq_getElem?_getD, List.getElem?_eq_getElem h]
  simp
theorem flat_len_le (ss : List ByteArray) (i : Nat) : (flat (ss.take i)).length ≤ (flat ss).length := by
  have e : flat ss = flat (ss.take i) ++ flat (ss.drop i) := by
    unfold flat
    rw [← List.flatten_append, ← List.map_append, List.take_append_drop]
  rw [e, List.length_append]
  omega
set_option maxRecDepth 20000 in
set_option maxHeartbeats 800000 in
theorem allR (o : Option Addr) (cap : Nat) (ss : List ByteArray) (hl : (flat ss).length ≤ 140737488355328) (hn : ss.length ≤ 140737488355328) (w : World) (h : Hid (IsTx w o ss)) :
    Calls Tryz.prog 53 #[.slice o ss.length cap] w fun r w' => r = .returned (.string (mk (flat ss))) ∧ w' = w := by
  have HL : Hid (∀ i, (flat (ss.take i)).length ≤ (flat ss).length) := flat_len_le ss
  have HF : Hid (∀ i, i < ss.length → flat (ss.take (i + 1)) = flat (ss.take i) ++ bl (ss.getD i ByteArray.empty)) := flat_snoc ss
  go_enter Tryz.func53, Tryz.ntmps53
  go_wp2_with fail
  go_loop [3, 4] (fun v t => ∃ k : Nat, k ≤ ss.length ∧ t = .int .i64 (k : Int) ∧ v = .string (mk (flat (ss.take k)))) (fun _ t => ss.length - (intOf t).toNat)
  case atStart => exact ⟨0, Nat.zero_le _, rfl, rfl⟩
  case round =>
    obtain ⟨k, hk, rfl, rfl⟩ := hrel
    by_cases hlt : k < ss.length
    · obtain ⟨x, rfl, hx⟩ := tx_at h.out (by omega)
      have c1 := hx k hlt
      have HFK : Hid _ := HF.out k hlt
      have z0 := HL.out (k + 1)
      rw [HFK.out, List.length_append, bl_length] at z0
      have z1 : (mk (flat (ss.take k))).size + (ss.getD k ByteArray.empty).size ≤ 140737488355328 := by rw [mk_size']; omega
      have z2 : (mk (flat (ss.take k))).size ≤ 140737488355328 := by omega
      have z3 : (ss.getD k ByteArray.empty).size ≤ 140737488355328 := by omega
      clear hx z0
      generalize ss.getD k ByteArray.empty = u at *
      go_wp2
      go_round
      case rel => exact ⟨k + 1, by omega, by go_num, congrArg Value.string (by rw [HFK.out, ← mk_app, mk_of])⟩
      case measure => simp [intOf]; omega
    · obtain rfl : k = ss.length := by omega
      go_wp2
      go_ret
      exact ⟨rfl, rfl⟩
set_option maxRecDepth 20000 in
theorem listR (o : Option Addr) (cap : Nat) (ss : List ByteArray) (hl : (flat ss).length ≤ 140737488355328) (hn : ss.length ≤ 140737488355328) (w : World) (h : Hid (IsTx w o ss)) :
    Calls Tryz.prog 82 #[.slice o ss.length cap] w fun r w' => r = .returned (.string (mk (listM (ss.map bl)))) ∧ w' = w := by
  go_enter Tryz.func82, Tryz.ntmps82
  go_wp2_with fail
  refine (allR o cap ss hl hn w h).mono ?_
  rintro e w1 ⟨rfl, rfl⟩
  have hz : (mk (flat ss)).size ≤ 140737488355328 := by rw [mk_size']; exact hl
  go_wp2
  go_ret
  refine ⟨ret_text ?_, rfl⟩
  show mk [91] ++ mk (flat ss) ++ mk [93] = _
  rw [mk_app, mk_app]
  rfl
set_option maxRecDepth 20000 in
theorem structR (o : Option Addr) (cap : Nat) (ss : List ByteArray) (hl : (flat ss).length ≤ 140737488355328) (hn : ss.length ≤ 140737488355328) (w : World) (h : Hid (IsTx w o ss)) :
    Calls Tryz.prog 83 #[.slice o ss.length cap] w fun r w' => r = .returned (.string (mk (structM (ss.map bl)))) ∧ w' = w := by
  go_enter Tryz.func83, Tryz.ntmps83
  go_wp2_with fail
  refine (allR o cap ss hl hn w h).mono ?_
  rintro e w1 ⟨rfl, rfl⟩
  have hz : (mk (flat ss)).size ≤ 140737488355328 := by rw [mk_size']; exact hl
  go_wp2
  go_ret
  refine ⟨ret_text ?_, rfl⟩
  show mk [123] ++ mk (flat ss) ++ mk [125] = _
  rw [mk_app, mk_app]
  rfl
end Go.Proofs.YthbjeedmhgnnaaaGreat.Val
namespace Go.Proofs.YthbjeedmhgnnaaaGreat.Val
open Go.ChangeShapes Go.WideShapes Go.ChangeAt Go.RowKit

/-- Where a sign is, from a place on, near by. -/
def UptoA (s : ByteArray) (p : Nat) (c : UInt8) (r : Int) : Prop := (∃ k : Nat, r = (k : Int) ∧ FirstAt s p c k ∧ k < p + 22) ∨ r = -1 ∧ ∀ j, p ≤ j → j < s.size → j < p + 22 → (bl s).getD j 0 ≠ c
set_option maxRecDepth 20000 in
set_option maxHeartbeats 800000 in
theorem uptoR (s : ByteArray) (p : Nat) (c : UInt8) (hs : s.size ≤ 65536) (hp : p ≤ 65536) (w : World) :
    Calls Tryz.prog 90 #[.string s, .int .i64 (p : Int), .int .u8 ((c.toNat : Nat) : Int)] w fun r w' => ∃ z, r = .returned (.int .i64 z) ∧ UptoA s p c z ∧ w' = w := by
  go_enter Tryz.func90, Tryz.ntmps90
  go_wp2_with fail
  go_loop [7] (fun t => ∃ k : Nat, p ≤ k ∧ k ≤ p + 22 ∧ t = .int .i64 (k : Int) ∧ ∀ j, p ≤ j → j < k → (bl s).getD j 0 ≠ c) (fun t => p + 22 - (intOf t).toNat)
  case atStart => exact ⟨p, Nat.le_refl _, by omega, rfl, fun j h1 h2 => by omega⟩
  case round =>
    obtain ⟨k, h1, h2, rfl, hno⟩ := hrel
    have HNO : Hid (∀ j, p ≤ j → j < k → (bl s).getD j 0 ≠ c) := hno
    clear hno
    by_cases ha : k < s.size
    · by_cases hb : k < p + 22
      · have HAT : Hid (s[k] = (bl s).getD k 0) := bl_at s k ha
        by_cases hc : (bl s).getD k 0 = c
        · have he : (((s[k].toNat : Nat) : Int) == ((c.toNat : Nat) : Int)) = true := by rw [HAT.out, hc, beq_iff_eq]
          have H : Hid (UptoA s p c (k : Int)) := .inl ⟨k, rfl, ⟨h1, ha, hc, HNO.out⟩, hb⟩
          clear hc HNO HAT
          go_wp2
          go_ret
          exact ⟨_, rfl, H.out, rfl⟩
        · have he : (((s[k].toNat : Nat) : Int) == ((c.toNat : Nat) : Int)) = false := by
            rw [HAT.out, beq_eq_false_iff_ne]
            intro e
            exact hc (UInt8.toNat_inj.1 (by omega))
          have HN : Hid (∀ j, p ≤ j → j < k + 1 → (bl s).getD j 0 ≠ c) := fun j j1 j2 => by
            by_cases e : j = k
            · rw [e]; exact hc
            · exact HNO.out j j1 (by omega)
          clear hc HNO HAT
          go_wp2
          go_round
          case rel => exact ⟨k + 1, by omega, by omega, by go_num, HN.out⟩
          case measure => simp [intOf]; omega
      · have H : Hid (UptoA s p c (-1)) := .inr ⟨rfl, fun j j1 _ j3 => HNO.out j j1 (by omega)⟩
        go_wp2
        go_ret
        exact ⟨_, rfl, H.out, rfl⟩
    · have H : Hid (UptoA s p c (-1)) := .inr ⟨rfl, fun j j1 j2 _ => HNO.out j j1 (by omega)⟩
      go_wp2
      go_ret
      exact ⟨_, rfl, H.out, rfl⟩
/-- What is read of a text as a number. -/
def WholeA (s : ByteArray) (x : Int) : Prop := ∀ y, numOf (bl s) = some y → x = y
theorem wholeA_none {s : ByteArray} {x : Int} (h : numOf (bl s) = none) : WholeA s x := fun y c => by rw [h] at c; cases c
theorem wholeA_some {s : ByteArray} {x : Int} (h : numOf (bl s) = some x) : WholeA s x := fun y c => by rw [h] at c; injection c
theorem text_eq {l : List UInt8} {s : ByteArray} (h : l = bl s) : mk l = s := by rw [h]; exact mk_of s
set_option maxRecDepth 20000 in
set_option maxHeartbeats 1600000 in
theorem wholeR (s : ByteArray) (hs : s.size ≤ 65536) (w : World) :
    Calls Tryz.prog 52 #[.string s] w fun r w' => ∃ x, r = .returned (.tuple #[.int .i64 x, .bool (numOf (bl s)).isSome]) ∧ WholeA s x ∧ Below w.heap.size w w' := by
  have HLEN : Hid ((bl s).length = s.size) := bl_length s
  go_enter Tryz.func52, Tryz.ntmps52
  go_wp2_with fail
  go_loop [4, 5] (fun v t => ∃ (k : Nat) (x : Int), k ≤ s.size ∧ t = .int .i64 (k : Int) ∧ v = .int .i64 x ∧ At64 x (evalW (bl s) k)) (fun _ t => s.size - (intOf t).toNat)
  case atStart => exact ⟨0, 0, Nat.zero_le _, rfl, rfl, by rw [evalW_zero]; exact At64.zero⟩
  case round =>
    obtain ⟨k, x, hk, rfl, rfl, hx⟩ := hrel
    have HX : Hid (At64 x (evalW (bl s) k)) := hx
    clear hx
    by_cases hend : k < s.size ∧ s.size < 21
    · obtain ⟨ha, hb⟩ := hend
      have HAT : Hid (s[k] = (bl s).getD k 0) := bl_at s k ha
      have hpos : 0 < s.size := by omega
      have HAZ : Hid (s[0] = (bl s).getD 0 0) := bl_at s 0 hpos
      by_cases hsg : k = 0 ∧ (bl s).getD 0 0 = 45
      · obtain ⟨rfl, h45⟩ := hsg
        have he : ((s[0].toNat : Nat) : Int) = 45 := by rw [HAZ.out, h45]; rfl
        have HN : Hid (At64 x (evalW (bl s) 1)) := by
          have := HX.out
          rw [evalW_zero] at this
          unfold Hid
          rw [evalW_one _ h45]
          exact this
        clear h45 HAZ HAT HX
        go_wp2
        go_round
        case rel => exact ⟨1, x, by omega, by go_num, rfl, HN.out⟩
        case measure => simp [intOf]; omega
      · have HK0 : Hid (k = 0 → ((s[k].toNat : Nat) : Int) ≠ 45) := by
          rintro rfl c
          refine hsg ⟨rfl, ?_⟩
          rw [HAZ.out] at c
          exact UInt8.toNat_inj.1 (by show _ = 45; omega)
        by_cases hdg : 48 ≤ s[k].toNat ∧ s[k].toNat ≤ 57
        · obtain ⟨d1, d2⟩ := hdg
          have hne : ((s[k].toNat : Nat) : Int) ≠ 45 := by omega
          by_cases h45 : (bl s).getD 0 0 = 45
          · have h1 : 1 ≤ k := by
              rcases Nat.eq_zero_or_pos k with e | e
              · exact absurd ⟨e, h45⟩ hsg
              · exact e
            have HS : Hid (evalW (bl s) (k + 1) = 10 * evalW (bl s) k - (((s[k].toNat : Nat) : Int) - 48)) := by
              unfold Hid
              rw [HAT.out]
              exact evalW_neg _ k h45 h1 (by rw [HLEN.out]; exact ha)
            have he : ((s[0].toNat : Nat) : Int) = 45 := by rw [HAZ.out, h45]; rfl
            clear HAT HAZ hsg h45 HK0
            generalize hN : s[k].toNat = N at *
            go_wp2
            go_round
            case rel => exact ⟨k + 1, _, by omega, by go_num, rfl, HX.out.neg (d := (N : Int) - 48) rfl HS.out⟩
            case measure => simp [intOf]; omega
          · have HS : Hid (evalW (bl s) (k + 1) = 10 * evalW (bl s) k + (((s[k].toNat : Nat) : Int) - 48)) := by
              unfold Hid
              rw [HAT.out]
              exact evalW_pos _ k h45 (by rw [HLEN.out]; exact ha)
            have he : ((s[0].toNat : Nat) : Int) ≠ 45 := by
              rw [HAZ.out]
              intro c
              exact h45 (UInt8.toNat_inj.1 (by show _ = 45; omega))
            clear HAT HAZ hsg h45 HK0
            generalize hN : s[k].toNat = N at *
            go_wp2
            go_round
            case rel => exact ⟨k + 1, _, by omega, by go_num, rfl, HX.out.pos (d := (N : Int) - 48) rfl HS.out⟩
            case measure => simp [intOf]; omega
        · have HNO : Hid (numOf (bl s) = none) := by
            refine bad_sign (i := k) (by rw [HLEN.out]; exact ha) ?_ hsg
            rw [← HAT.out]
            omega
          clear hsg HAZ HAT
          by_cases e45 : s[k].toNat = 45
          · have h1 : 1 ≤ k := by
              rcases Nat.eq_zero_or_pos k with e | e
              · exact absurd (by omega) (HK0.out e)
              · exact e
            have he : ((s[k].toNat : Nat) : Int) = 45 := by omega
            clear HK0 e45 hdg
            go_wp2
            go_ret2
            exact ⟨0, by rw [HNO.out]; rfl, wholeA_none HNO.out, Below.refl _ _⟩
          · have he : ((s[k].toNat : Nat) : Int) ≠ 45 := by omega
            by_cases c : s[k].toNat < 48
            · clear HK0 e45 hdg
              go_wp2
              go_ret2
              exact ⟨0, by rw [HNO.out]; rfl, wholeA_none HNO.out, Below.refl _ _⟩
            · have c2 : 57 < s[k].toNat := by omega
              clear HK0 e45 hdg
              go_wp2
              go_ret2
              exact ⟨0, by rw [HNO.out]; rfl, wholeA_none HNO.out, Below.refl _ _⟩
    · have hx := HX.out.1
      have H : Hid ((intD x = bl s ∧ numOf (bl s) = some x) ∨ (intD x ≠ bl s ∧ numOf (bl s) = none)) := by
        by_cases h21 : s.size < 21
        · obtain rfl : k = s.size := by omega
          have h2 := HX.out.2
          rw [← HLEN.out, evalW_all] at h2
          rcases read_iff hx h2 with ⟨a, b⟩ | ⟨a, b⟩
          · exact .inl ⟨b, a⟩
          · exact .inr ⟨b, a⟩
        · refine .inr ⟨fun e => ?_, too_long (by rw [HLEN.out]; omega)⟩
          have := (length_intD x hx).2
          rw [e, HLEN.out] at this
          omega
      have hend' : (decide (((k : Nat) : Int) < ((s.size : Nat) : Int)) && decide (((s.size : Nat) : Int) < 21)) = false := by
        rw [Bool.and_eq_false_iff, decide_eq_false_iff_not, decide_eq_false_iff_not]
        by_cases e : k < s.size
        · exact .inr (fun c => hend ⟨e, by omega⟩)
        · exact .inl (by omega)
      rcases H.out with ⟨e, hn⟩ | ⟨e, hn⟩
      · have hm := text_eq e
        have HN : Hid (numOf (bl s) = some x) := hn
        clear hn e HX H
        by_cases c : k < s.size
        · have c2 : ¬ s.size < 21 := fun h => hend ⟨c, h⟩
          go_wp2_with fail
          refine (digitsC x hx w).mono ?_
          rintro e w1 ⟨rfl, b1⟩
          rw [hm]
          have hq : (s.toList == s.toList) = true := by rw [beq_iff_eq]
          go_wp2
          go_ret2
          exact ⟨x, by rw [HN.out]; rfl, wholeA_some HN.out, b1⟩
        · go_wp2_with fail
          refine (digitsC x hx w).mono ?_
          rintro e w1 ⟨rfl, b1⟩
          rw [hm]
          have hq : (s.toList == s.toList) = true := by rw [beq_iff_eq]
          go_wp2
          go_ret2
          exact ⟨x, by rw [HN.out]; rfl, wholeA_some HN.out, b1⟩
      · have HN : Hid (numOf (bl s) = none) := hn
        have hq : ((mk (intD x)).toList == s.toList) = false := texts_part (fun c => e (by rw [← bl_mk' (intD x), c]))
        clear hn e HX H
        by_cases c : k < s.size
        · have c2 : ¬ s.size < 21 := fun h => hend ⟨c, h⟩
          go_wp2_with fail
          refine (digitsC x hx w).mono ?_
          rintro e w1 ⟨rfl, b1⟩
          go_wp2
          go_ret2
          exact ⟨x, by rw [HN.out]; rfl, wholeA_none HN.out, b1⟩
        · go_wp2_with fail
          refine (digitsC x hx w).mono ?_
          rintro e w1 ⟨rfl, b1⟩
          go_wp2
          go_ret2
          exact ⟨x, by rw [HN.out]; rfl, wholeA_none HN.out, b1⟩
end Go.Proofs.YthbjeedmhgnnaaaGreat.Val
namespace Go.Proofs.YthbjeedmhgnnaaaGreat.Val
open Go.ChangeShapes Go.WideShapes Go.ChangeAt Go.RowKit

theorem ret_int {a b : Int} (h : a = b) : Ending.returned (.int .i64 a) = .returned (.int .i64 b) := by rw [h]
theorem byteR_ne {b c : UInt8} (h : b ≠ c) : ((b.toNat : Nat) : Int) ≠ ((c.toNat : Nat) : Int) := fun e => h (UInt8.toNat_inj.1 (by omega))
set_option maxRecDepth 20000 in
set_option maxHeartbeats 1600000 in
theorem endNest91 (d : Nat) (hd : d ≤ 4) (s : ByteArray) (p : Nat) (hs : s.size ≤ 65536) (hp : p < s.size) (hb0 : s[p] = 91)
    (hrec : Hid (∀ (q : Nat) (y : World), 1 ≤ d → q < s.size → Calls Tryz.prog 89 #[.string s, .int .i64 (q : Int), .int .i64 ((d : Int) - 1)] y fun r w' => r = .returned (.int .i64 (endO (below d) s q)) ∧ Below y.heap.size y w')) (w : World) :
    Calls Tryz.prog 89 #[.string s, .int .i64 (p : Int), .int .i64 (d : Int)] w fun r w' => r = .returned (.int .i64 (manyZ (below d) 93 s (p + 1))) ∧ Below w.heap.size w w' := by
  have hb : ((s[p].toNat : Nat) : Int) = 91 := by rw [hb0]; rfl
  clear hb0
  have hp1 : decide (s.size ≤ p) = false := decide_eq_false (by omega)
  have hp2 : decide (((s.size : Nat) : Int) ≤ ((p : Nat) : Int)) = false := decide_eq_false (by omega)
  generalize hZ : manyZ (below d) 93 s (p + 1) = Z
  have HZ0 : Hid (Z = manyZ (below d) 93 s (p + 1)) := hZ.symm
  clear hZ
  go_enter Tryz.func89, Tryz.ntmps89
  go_wp2_with fail
  go_loopw [1] (fun t wr => ∃ q : Nat, p + 1 ≤ q ∧ q ≤ s.size ∧ t = .int .i64 (q : Int) ∧ Z = manyZ (below d) 93 s q ∧ Below w.heap.size w wr) (fun t _ => s.size - (intOf t).toNat)
  case atStart => exact ⟨p + 1, Nat.le_refl _, by omega, by go_num, HZ0.out, Below.refl _ _⟩
  case round =>
    obtain ⟨q, h1, h2, rfl, hz, hbl⟩ := hrel
    have HZ : Hid (Z = manyZ (below d) 93 s q) := hz
    have HB : Hid (Below w.heap.size w wr) := hbl
    clear hz hbl HZ0
    by_cases hq : q < s.size
    · by_cases hst : s[q] = 93
      · have HE : Hid (Z = ((q + 1 : Nat) : Int)) := by unfold Hid; rw [HZ.out, manyZ_stop hq hst]
        have hc : ((s[q].toNat : Nat) : Int) = 93 := by rw [hst]; rfl
        clear hst HZ hrec
        rcases Nat.eq_zero_or_pos d with rfl | hd0
        all_goals
          go_wp2
          go_ret
          exact ⟨ret_int (by rw [HE.out]; omega), HB.out⟩
      · have hc : ((s[q].toNat : Nat) : Int) ≠ 93 := byteR_ne hst
        rcases Nat.eq_zero_or_pos d with rfl | hd0
        · have HE : Hid (Z = -1) := by unfold Hid; rw [HZ.out, manyZ_bad hq hst rfl]
          clear hst HZ hrec
          go_wp2
          go_ret
          exact ⟨ret_int HE.out.symm, HB.out⟩
        · have HST : Hid (s[q] ≠ 93) := hst
          clear hst
          go_wp2_with fail
          refine (hrec.out q wr hd0 hq).mono ?_
          rintro e w1 ⟨rfl, b1⟩
          have HB1 : Hid (Below w.heap.size w w1) := bel2 HB.out b1
          clear b1
          rcases endO_cases (fair_below d) s q hq with ⟨ho, hn⟩ | ⟨q', ho, hlt, hle, hn⟩
          · have HE : Hid (Z = -1) := by unfold Hid; rw [HZ.out, manyZ_bad hq HST.out hn]
            rw [ho]
            clear ho hn HZ HST
            go_wp2
            go_ret
            exact ⟨ret_int HE.out.symm, HB1.out⟩
          · have HE : Hid (Z = manyZ (below d) 93 s q') := by unfold Hid; rw [HZ.out, manyZ_step (fair_below d) hq HST.out hlt hle hn]
            rw [ho]
            clear ho hn HZ HST
            go_wp2
            go_roundw
            case rel => exact ⟨q', by omega, hle, rfl, HE.out, HB1.out⟩
            case measure => simp [intOf]; omega
    · have HE : Hid (Z = -1) := by unfold Hid; rw [HZ.out, manyZ_out (by omega)]
      clear HZ hrec
      rcases Nat.eq_zero_or_pos d with rfl | hd0
      all_goals
        go_wp2
        go_ret
        exact ⟨ret_int HE.out.symm, HB.out⟩
set_option maxRecDepth 20000 in
set_option maxHeartbeats 1600000 in
theorem endNest123 (d : Nat) (hd : d ≤ 4) (s : ByteArray) (p : Nat) (hs : s.size ≤ 65536) (hp : p < s.size) (hb0 : s[p] = 123)
    (hrec : Hid (∀ (q : Nat) (y : World), 1 ≤ d → q < s.size → Calls Tryz.prog 89 #[.string s, .int .i64 (q : Int), .int .i64 ((d : Int) - 1)] y fun r w' => r = .returned (.int .i64 (endO (below d) s q)) ∧ Below y.heap.size y w')) (w : World) :
    Calls Tryz.prog 89 #[.string s, .int .i64 (p : Int), .int .i64 (d : Int)] w fun r w' => r = .returned (.int .i64 (manyZ (below d) 125 s (p + 1))) ∧ Below w.heap.size w w' := by
  have hb : ((s[p].toNat : Nat) : Int) = 123 := by rw [hb0]; rfl
  clear hb0
  have hp1 : decide (s.size ≤ p) = false := decide_eq_false (by omega)
  have hp2 : decide (((s.size : Nat) : Int) ≤ ((p : Nat) : Int)) = false := decide_eq_false (by omega)
  generalize hZ : manyZ (below d) 125 s (p + 1) = Z
  have HZ0 : Hid (Z = manyZ (below d) 125 s (p + 1)) := hZ.symm
  clear hZ
  go_enter Tryz.func89, Tryz.ntmps89
  go_wp2_with fail
  go_loopw [1] (fun t wr => ∃ q : Nat, p + 1 ≤ q ∧ q ≤ s.size ∧ t = .int .i64 (q : Int) ∧ Z = manyZ (below d) 125 s q ∧ Below w.heap.size w wr) (fun t _ => s.size - (intOf t).toNat)
  case atStart => exact ⟨p + 1, Nat.le_refl _, by omega, by go_num, HZ0.out, Below.refl _ _⟩
  case round =>
    obtain ⟨q, h1, h2, rfl, hz, hbl⟩ := hrel
    have HZ : Hid (Z = manyZ (below d) 125 s q) := hz
    have HB : Hid (Below w.heap.size w wr) := hbl
    clear hz hbl HZ0
    by_cases hq : q < s.size
    · by_cases hst : s[q] = 125
      · have HE : Hid (Z = ((q + 1 : Nat) : Int)) := by unfold Hid; rw [HZ.out, manyZ_stop hq hst]
        have hc : ((s[q].toNat : Nat) : Int) = 125 := by rw [hst]; rfl
        clear hst HZ hrec
        rcases Nat.eq_zero_or_pos d with rfl | hd0
        all_goals
          go_wp2
          go_ret
          exact ⟨ret_int (by rw [HE.out]; omega), HB.out⟩
      · have hc : ((s[q].toNat : Nat) : Int) ≠ 125 := byteR_ne hst
        rcases Nat.eq_zero_or_pos d with rfl | hd0
        · have HE : Hid (Z = -1) := by unfold Hid; rw [HZ.out, manyZ_bad hq hst rfl]
          clear hst HZ hrec
          go_wp2
          go_ret
          exact ⟨ret_int HE.out.symm, HB.out⟩
        · have HST : Hid (s[q] ≠ 125) := hst
          clear hst
          go_wp2_with fail
          refine (hrec.out q wr hd0 hq).mono ?_
          rintro e w1 ⟨rfl, b1⟩
          have HB1 : Hid (Below w.heap.size w w1) := bel2 HB.out b1
          clear b1
          rcases endO_cases (fair_below d) s q hq with ⟨ho, hn⟩ | ⟨q', ho, hlt, hle, hn⟩
          · have HE : Hid (Z = -1) := by unfold Hid; rw [HZ.out, manyZ_bad hq HST.out hn]
            rw [ho]
            clear ho hn HZ HST
            go_wp2
            go_ret
            exact ⟨ret_int HE.out.symm, HB1.out⟩
          · have HE : Hid (Z = manyZ (below d) 125 s q') := by unfold Hid; rw [HZ.out, manyZ_step (fair_below d) hq HST.out hlt hle hn]
            rw [ho]
            clear ho hn HZ HST
            go_wp2
            go_roundw
            case rel => exact ⟨q', by omega, hle, rfl, HE.out, HB1.out⟩
            case measure => simp [intOf]; omega
    · have HE : Hid (Z = -1) := by unfold Hid; rw [HZ.out, manyZ_out (by omega)]
      clear HZ hrec
      rcases Nat.eq_zero_or_pos d with rfl | hd0
      all_goals
        go_wp2
        go_ret
        exact ⟨ret_int HE.out.symm, HB.out⟩
theorem firstAt_up {s : ByteArray} {p k : Nat} {c : UInt8} (h : FirstAt s p c k) (hp : p < s.size) (hb : s[p] ≠ c) : FirstAt s (p + 1) c k := by
  obtain ⟨h1, h2, h3, h4⟩ := h
  have hne : k ≠ p := by
    rintro rfl
    exact hb (by rw [bl_at]; exact h3)
  exact ⟨by omega, h2, h3, fun j j1 j2 => h4 j (by omega) j2⟩
theorem ex_size (s : ByteArray) (a b : Nat) (hs : s.size ≤ 65536) : (s.extract a b).size ≤ 65536 := by
  rw [ByteArray.size_extract]
  omega
set_option maxRecDepth 20000 in
set_option maxHeartbeats 1600000 in
theorem endIntR (d : Nat) (_hd : d ≤ 4) (s : ByteArray) (p : Nat) (hs : s.size ≤ 65536) (hp : p < s.size) (hb0 : s[p] = 105) (w : World) :
    Calls Tryz.prog 89 #[.string s, .int .i64 (p : Int), .int .i64 (d : Int)] w fun r w' => r = .returned (.int .i64 (endZ d s p)) ∧ Below w.heap.size w w' := by
  have hb : ((s[p].toNat : Nat) : Int) = 105 := by rw [hb0]; rfl
  have HF : Hid ((∀ j, p ≤ j → j < s.size → j < p + 22 → (bl s).getD j 0 ≠ 59) → endZ d s p = -1) := fun h => endZ_int_far hp hb0 fun j h1 h2 h3 => h j (by omega) h2 h3
  have HK : Hid (∀ k, FirstAt s p 59 k → p + 1 ≤ k ∧ k < s.size ∧ endZ d s p = if (numOf (bl (s.extract (p + 1) k))).isSome then ((k + 1 : Nat) : Int) else -1) := fun k hk => by
    have := firstAt_up hk hp (by rw [hb0]; decide)
    exact ⟨this.1, this.2.1, endZ_int hp hb0 this⟩
  clear hb0
  generalize endZ d s p = Z at *
  go_enter Tryz.func89, Tryz.ntmps89
  go_wp2_with fail
  refine (uptoR s p 59 hs (by omega) w).mono ?_
  rintro e w1 ⟨z, rfl, hu, hw1⟩
  subst w1
  rcases hu with ⟨k, rfl, hk, h22⟩ | ⟨rfl, hfar⟩
  · obtain ⟨k1, k2, hz⟩ := HK.out k hk
    have HZ : Hid (Z = if (numOf (bl (s.extract (p + 1) k))).isSome then ((k + 1 : Nat) : Int) else -1) := hz
    have hex := ex_size s (p + 1) k hs
    have i0 : (0 : Int) ≤ (p : Int) + 1 := by omega
    have i1 : (p : Int) + 1 ≤ (k : Int) := by omega
    have i2 : (k : Int) ≤ (s.size : Int) := by omega
    clear HK HF hz hk
    go_wp2_with fail
    refine (wholeR (s.extract (p + 1) k) hex w).mono ?_
    rintro e w1 ⟨x, rfl, hx, b1⟩
    have HB : Hid (Below w.heap.size w w1) := b1
    clear b1 hx
    generalize (numOf (bl (s.extract (p + 1) k))).isSome = is at *
    cases is
    all_goals
      go_wp2
      go_ret
      exact ⟨ret_int (by rw [HZ.out]; first | rfl | (show _ = ((k + 1 : Nat) : Int); omega)), HB.out⟩
  · have HZ : Hid (Z = -1) := HF.out hfar
    clear HK HF hfar
    go_wp2
    go_ret
    exact ⟨ret_int HZ.out.symm, Below.refl _ _⟩
set_option maxRecDepth 20000 in
set_option maxHeartbeats 1600000 in
theorem endBytesR (d : Nat) (_hd : d ≤ 4) (s : ByteArray) (p : Nat) (hs : s.size ≤ 65536) (hp : p < s.size) (hb0 : s[p] = 115) (w : World) :
    Calls Tryz.prog 89 #[.string s, .int .i64 (p : Int), .int .i64 (d : Int)] w fun r w' => r = .returned (.int .i64 (endZ d s p)) ∧ Below w.heap.size w w' := by
  have hb : ((s[p].toNat : Nat) : Int) = 115 := by rw [hb0]; rfl
  have HF : Hid ((∀ j, p ≤ j → j < s.size → j < p + 22 → (bl s).getD j 0 ≠ 58) → endZ d s p = -1) := fun h => endZ_bytes_far hp hb0 fun j h1 h2 h3 => h j (by omega) h2 h3
  have HK : Hid (∀ k, FirstAt s p 58 k → p + 1 ≤ k ∧ k < s.size ∧ endZ d s p = match numOf (bl (s.extract (p + 1) k)) with
    | none => -1
    | some x => if 0 ≤ x ∧ x ≤ (s.size : Int) - k - 1 then (k : Int) + 1 + x else -1) := fun k hk => by
    have := firstAt_up hk hp (by rw [hb0]; decide)
    exact ⟨this.1, this.2.1, endZ_bytes hp hb0 this⟩
  clear hb0
  generalize endZ d s p = Z at *
  go_enter Tryz.func89, Tryz.ntmps89
  go_wp2_with fail
  refine (uptoR s p 58 hs (by omega) w).mono ?_
  rintro e w1 ⟨z, rfl, hu, hw1⟩
  subst w1
  rcases hu with ⟨k, rfl, hk, h22⟩ | ⟨rfl, hfar⟩
  · obtain ⟨k1, k2, hz⟩ := HK.out k hk
    have hex := ex_size s (p + 1) k hs
    have i0 : (0 : Int) ≤ (p : Int) + 1 := by omega
    have i1 : (p : Int) + 1 ≤ (k : Int) := by omega
    have i2 : (k : Int) ≤ (s.size : Int) := by omega
    clear HK HF hk
    go_wp2_with fail
    refine (wholeR (s.extract (p + 1) k) hex w).mono ?_
    rintro e w1 ⟨x, rfl, hx, b1⟩
    have HB : Hid (Below w.heap.size w w1) := b1
    clear b1
    cases hn : numOf (bl (s.extract (p + 1) k)) with
    | none =>
      rw [hn] at hz
      have HZ : Hid (Z = -1) := hz
      clear hz hx hn
      rw [Option.isSome_none]
      go_wp2
      go_ret
      exact ⟨ret_int HZ.out.symm, HB.out⟩
    | some y =>
      obtain rfl := hx y hn
      have hin := (numOf_some.1 hn).1
      rw [hn] at hz
      have HZ : Hid (Z = if 0 ≤ x ∧ x ≤ (s.size : Int) - k - 1 then (k : Int) + 1 + x else -1) := hz
      obtain ⟨i1, i2⟩ := hin
      clear hz hx hn
      rw [Option.isSome_some]
      by_cases c : 0 ≤ x
      · by_cases c2 : x ≤ (s.size : Int) - k - 1
        · have HE : Hid (Z = (k : Int) + 1 + x) := by unfold Hid; rw [HZ.out, if_pos ⟨c, c2⟩]
          clear HZ
          go_wp2
          go_ret
          exact ⟨ret_int HE.out.symm, HB.out⟩
        · have HE : Hid (Z = -1) := by unfold Hid; rw [HZ.out, if_neg (fun h => c2 h.2)]
          clear HZ
          go_wp2
          go_ret
          exact ⟨ret_int HE.out.symm, HB.out⟩
      · have HE : Hid (Z = -1) := by unfold Hid; rw [HZ.out, if_neg (fun h => c h.1)]
        clear HZ
        go_wp2
        go_ret
        exact ⟨ret_int HE.out.symm, HB.out⟩
  · have HZ : Hid (Z = -1) := HF.out hfar
    clear HK HF hfar
    go_wp2
    go_ret
    exact ⟨ret_int HZ.out.symm, Below.refl _ _⟩
set_option maxRecDepth 20000 in
set_option maxHeartbeats 1600000 in
theorem endStep (d : Nat) (hd : d ≤ 4) (s : ByteArray) (p : Nat) (hs : s.size ≤ 65536) (hp : p ≤ s.size)
    (hrec : Hid (∀ (q : Nat) (y : World), 1 ≤ d → q < s.size → Calls Tryz.prog 89 #[.string s, .int .i64 (q : Int), .int .i64 ((d : Int) - 1)] y fun r w' => r = .returned (.int .i64 (endO (below d) s q)) ∧ Below y.heap.size y w')) (w : World) :
    Calls Tryz.prog 89 #[.string s, .int .i64 (p : Int), .int .i64 (d : Int)] w fun r w' => r = .returned (.int .i64 (endZ d s p)) ∧ Below w.heap.size w w' := by
  by_cases h0 : p < s.size
  · by_cases c1 : s[p] = 110 ∨ s[p] = 116 ∨ s[p] = 102
    · have HZ : Hid (endZ d s p = ((p + 1 : Nat) : Int)) := endZ_word h0 c1
      generalize endZ d s p = Z at *
      rcases c1 with c | c | c
      · have hb : ((s[p].toNat : Nat) : Int) = 110 := by rw [c]; rfl
        clear c hrec
        go_enter Tryz.func89, Tryz.ntmps89
        go_wp2
        go_ret
        exact ⟨ret_int (by rw [HZ.out]; omega), Below.refl _ _⟩
      · have hb : ((s[p].toNat : Nat) : Int) = 116 := by rw [c]; rfl
        clear c hrec
        go_enter Tryz.func89, Tryz.ntmps89
        go_wp2
        go_ret
        exact ⟨ret_int (by rw [HZ.out]; omega), Below.refl _ _⟩
      · have hb : ((s[p].toNat : Nat) : Int) = 102 := by rw [c]; rfl
        clear c hrec
        go_enter Tryz.func89, Tryz.ntmps89
        go_wp2
        go_ret
        exact ⟨ret_int (by rw [HZ.out]; omega), Below.refl _ _⟩
    · by_cases c2 : s[p] = 105
      · exact endIntR d hd s p hs h0 c2 w
      · by_cases c3 : s[p] = 115
        · exact endBytesR d hd s p hs h0 c3 w
        · by_cases c4 : s[p] = 91
          · rw [endZ_nest h0 (.inl c4), c4]
            exact endNest91 d hd s p hs h0 c4 hrec w
          · by_cases c5 : s[p] = 123
            · rw [endZ_nest h0 (.inr c5), c5]
              exact endNest123 d hd s p hs h0 c5 hrec w
            · have HZ : Hid (endZ d s p = -1) := endZ_other h0 ⟨fun c => c1 (.inl c), fun c => c1 (.inr (.inl c)), fun c => c1 (.inr (.inr c)), c2, c3, c4, c5⟩
              generalize endZ d s p = Z at *
              have e1 : ((s[p].toNat : Nat) : Int) ≠ 110 := byteR_ne fun c => c1 (.inl c)
              have e2 : ((s[p].toNat : Nat) : Int) ≠ 116 := byteR_ne fun c => c1 (.inr (.inl c))
              have e3 : ((s[p].toNat : Nat) : Int) ≠ 102 := byteR_ne fun c => c1 (.inr (.inr c))
              have e4 : ((s[p].toNat : Nat) : Int) ≠ 105 := byteR_ne c2
              have e5 : ((s[p].toNat : Nat) : Int) ≠ 115 := byteR_ne c3
              have e6 : ((s[p].toNat : Nat) : Int) ≠ 91 := byteR_ne c4
              have e7 : ((s[p].toNat : Nat) : Int) ≠ 123 := byteR_ne c5
              clear c1 c2 c3 c4 c5 hrec
              go_enter Tryz.func89, Tryz.ntmps89
              go_wp2
              go_ret
              exact ⟨ret_int HZ.out.symm, Below.refl _ _⟩
  · have HZ : Hid (endZ d s p = -1) := endZ_out (by omega)
    generalize endZ d s p = Z at *
    clear hrec
    go_enter Tryz.func89, Tryz.ntmps89
    go_wp2
    go_ret
    exact ⟨ret_int HZ.out.symm, Below.refl _ _⟩
set_option maxRecDepth 20000 in
set_option maxHeartbeats 1600000 in
theorem endR : ∀ (d : Nat), d ≤ 4 → ∀ (s : ByteArray) (p : Nat), s.size ≤ 65536 → p ≤ s.size → ∀ w : World,
    Calls Tryz.prog 89 #[.string s, .int .i64 (p : Int), .int .i64 (d : Int)] w fun r w' => r = .returned (.int .i64 (endZ d s p)) ∧ Below w.heap.size w w' := by
  intro d
  induction d with
  | zero =>
    intro hd s p hs hp w
    exact endStep 0 hd s p hs hp (fun q y h _ => absurd h (by decide)) w
  | succ d ih =>
    intro hd s p hs hp w
    refine endStep (d + 1) hd s p hs hp (fun q y _ hq => ?_) w
    have := ih (by omega) s q hs (by omega) y
    rw [show ((d + 1 : Nat) : Int) - 1 = (d : Int) from by omega]
    exact this
end Go.Proofs.YthbjeedmhgnnaaaGreat.Val
