/-
  Digits and made values, as the document's own answers lay them: contracts.
-/
import Derived.Test.YtejgjipmnmfkcaaGreatDoorDig
import Derived.Test.YtejgjipmnmfkcaaGreatDoorDigWalk
import Derived.Test.YtejgjipmnmfkcaaGreatDoorMake
import Derived.Laws.AppendOwnNone
import Derived.Laws.IdiomStrings
namespace Go.Proofs.YtejgjipmnmfkcaaGreatDoor.Val
open Go.ChangeShapes Go.WideShapes Go.ChangeAt Go.RowKit
open Texts

theorem info5 : (Tryz.prog.info? 5).map (fun i => (i.zero, i.size, i.bytes)) = some (some (.int .u8 0), 1, 1) := by kernel_rfl
/-- Bytes, as cells. -/
def bcells (l : List UInt8) : List Value := l.map fun b => .int .u8 ((b.toNat : Nat) : Int)
theorem bytes_back {w : World} {base n : Nat} {v : Value} {l : List UInt8} (h : w.ownsRow base 5 1 v n (bcells l)) (h0 : 0 < n) : (convert 72 9 v).run Tryz.prog w = .ok (.string (mk l)) w := by
  have hl : l.length = n := by have := h.1; simpa [bcells] using this
  rcases h.2 with ⟨_, hn⟩ | ⟨g, cap, cur, rfl, _, _, _⟩
  · omega
  · rw [← hl]
    refine run_convert_bytes_back w 72 9 5 ⟨g, 0, none⟩ cap l Tryz.underlying72 Tryz.underlying5 Tryz.underlying9 ?_
    intro j hj
    rw [Addr.add_lit, Nat.zero_add, h.cellAt j (by omega)]
    simp [bcells, hj]
theorem own_byte (w : World) (b : UInt8) : (w.alloc (.cells #[.int .u8 ((b.toNat : Nat) : Int)] 5)).ownsRow w.heap.size 5 1 (.slice (some ⟨w.heap.size, 0, none⟩) 1 1) 1 (bcells [b]) :=
  ⟨rfl, .inr ⟨w.heap.size, 1, #[.int .u8 ((b.toNat : Nat) : Int)], rfl, Nat.le_refl _, heap_alloc_new _ _, Nat.le_refl _, by unfold maxLen; omega, rfl, rfl⟩⟩
def nilOne : Value → Nat
  | .slice none _ _ => 1
  | _ => 0
theorem own_some {w : World} {base n : Nat} {v : Value} {l : List UInt8} (h : w.ownsRow base 5 1 v n (bcells l)) (h0 : 0 < n) : ∃ g cap, v = .slice (some ⟨g, 0, none⟩) n cap := by
  rcases h.2 with ⟨_, hn⟩ | ⟨g, cap, cur, rfl, _, _, _⟩
  · omega
  · exact ⟨g, cap, rfl⟩
theorem bcells_one (u : Value) (l : List UInt8) (h : u ∈ bcells l) : u.oneCell' = true := by
  obtain ⟨b, _, rfl⟩ := List.mem_map.1 h
  rfl
set_option maxRecDepth 20000 in
set_option maxHeartbeats 1600000 in
theorem decimalC (n : Nat) (hn : n ≤ 9223372036854775807) (w : World) :
    Calls Tryz.prog 34 #[.int .i64 (n : Int)] w fun r w' => r = .returned (.string (mk (dig n))) ∧ Below w.heap.size w w' := by
  obtain ⟨i5, hi, hz0, hz1, hz2⟩ := info_parts info5
  go_enter Tryz.func34, Tryz.ntmps34
  go_wp2_with fail
  go_loopw [3, 4] (fun t v wr => ∃ (m : Nat) (l : List UInt8), t = .int .u64 (m : Int) ∧ m ≤ n ∧ DigAt n m l ∧ (l = [] → v = .slice none 0 0) ∧ wr.ownsRow w.heap.size 5 1 v l.length (bcells l) ∧ Below w.heap.size w wr) (fun t v _ => (intOf t).toNat + nilOne v)
  case atStart => exact ⟨n, [], by go_num, Nat.le_refl _, DigAt.start n, fun _ => rfl, World.ownsRow_nil _ _ _ _, Below.refl _ _⟩
  case round =>
    obtain ⟨m, l, rfl, hm, hd, hnil, hown, hbl⟩ := hrel
    have HD : Hid (DigAt n m l) := hd
    have h20 := hd.length
    have HB : Hid (Below w.heap.size w wr) := hbl
    have HS : Hid (DigAt n (m / 10) (UInt8.ofNat (48 + m % 10) :: l) ∨ ¬ (0 < m ∨ l = [])) := by
      by_cases c : 0 < m ∨ l = []
      · exact .inl (hd.step (by omega) c)
      · exact .inr c
    have hu : ((UInt8.ofNat (48 + m % 10)).toNat : Int) = 48 + (m : Int) % 10 := by rw [byte_nat _ (by omega)]; omega
    clear hd
    by_cases hl : l = []
    · obtain rfl := hnil hl
      subst hl
      have HN := HS.out.resolve_right (fun c => c (.inr rfl))
      clear HS hown HD hnil
      rcases Nat.eq_zero_or_pos m with rfl | h0
      · have hu2 : ((UInt8.ofNat (48 + 0 % 10)).toNat : Int) = 48 := rfl
        clear hu
        generalize UInt8.ofNat (48 + 0 % 10) = b at *
        have HO : Hid ((wr.alloc (.cells #[.int .u8 ((b.toNat : Nat) : Int)] 5)).ownsRow w.heap.size 5 1 (.slice (some ⟨wr.heap.size, 0, none⟩) 1 1) 1 (bcells [b])) := Tree.own_mono (own_byte wr b) HB.out.size
        rw [hu2] at HO
        go_wp2_with (at_builtin; refine wpList_append_own_none rfl (.tmp 25) (.tmp 26) 72 rfl w.heap.size 5 i5 1 Tryz.underlying72 hi _ 1 _ rfl HO.out rfl ?_)
        go_wp2
        go_roundw
        case rel => exact ⟨_, [b], by go_num, by omega, HN, (fun c => by cases c), HO.out, HB.out.alloc HB.out.size _⟩
        case measure => simp [intOf, nilOne]
      · generalize UInt8.ofNat (48 + m % 10) = b at *
        have HO : Hid ((wr.alloc (.cells #[.int .u8 ((b.toNat : Nat) : Int)] 5)).ownsRow w.heap.size 5 1 (.slice (some ⟨wr.heap.size, 0, none⟩) 1 1) 1 (bcells [b])) := Tree.own_mono (own_byte wr b) HB.out.size
        rw [hu] at HO
        go_wp2_with (at_builtin; refine wpList_append_own_none rfl (.tmp 25) (.tmp 26) 72 rfl w.heap.size 5 i5 1 Tryz.underlying72 hi _ 1 _ rfl HO.out rfl ?_)
        go_wp2
        go_roundw
        case rel => exact ⟨_, [b], by go_num, by omega, HN, (fun c => by cases c), HO.out, HB.out.alloc HB.out.size _⟩
        case measure => simp [intOf, nilOne]; omega
    · by_cases h0 : 0 < m
      · have HN : Hid (DigAt n (m / 10) (UInt8.ofNat (48 + m % 10) :: l)) := HS.out.resolve_right (fun c => c (.inl h0))
        have hl1 : 1 ≤ l.length := by cases l with | nil => exact absurd rfl hl | cons _ _ => exact Nat.succ_pos _
        clear HS HD hnil
        obtain ⟨g, cap, rfl⟩ := own_some hown hl1
        have HOWN : Hid (wr.ownsRow w.heap.size 5 1 (.slice (some ⟨g, 0, none⟩) l.length cap) l.length (bcells l)) := hown
        clear hown hl hbl
        generalize UInt8.ofNat (48 + m % 10) = b at *
        have HO : Hid ((wr.alloc (.cells #[.int .u8 ((b.toNat : Nat) : Int)] 5)).ownsRow w.heap.size 5 1 (.slice (some ⟨wr.heap.size, 0, none⟩) 1 1) 1 (bcells [b])) := Tree.own_mono (own_byte wr b) HB.out.size
        rw [hu] at HO
        go_wp2_with (at_builtin; refine wpList_append_own _ rfl (.tmp 25) (.tmp 26) 72 rfl w.heap.size 5 i5 (.int .u8 0) 1 1 Tryz.underlying72 hi hz0 hz1 hz2 rfl (by decide) _ 1 _ rfl HO.out ⟨g, 0, none⟩ l.length cap (bcells l) rfl ?c0 ?c1 ?c2 ?c3 ?c4 ?c5 ?_)
        case c0 => simp [bcells]
        case c1 => exact (HOWN.out.alloc _).cells rfl
        case c2 => exact fun u hu => bcells_one u l hu
        case c3 => unfold maxLen; omega
        case c4 => omega
        case c5 => have := HB.out.size; simp; omega
        intro v' w3 hown' hgrow _
        have HB3 : Hid (Below w.heap.size w w3) := (HB.out.alloc HB.out.size _).grown hgrow (by have := HB.out.size; simp; omega) (fun j hj => (HO.out.lt j hj).1)
        have HO3 : Hid (w3.ownsRow w.heap.size 5 1 v' (b :: l).length (bcells (b :: l))) := by
          unfold Hid
          rw [List.length_cons, Nat.add_comm]
          exact hown'
        obtain ⟨g3, cap3, rfl⟩ := own_some HO3.out (Nat.succ_pos _)
        clear hown' hgrow HO HOWN hu
        go_wp2
        go_roundw
        case rel => exact ⟨m / 10, b :: l, by go_num, by omega, HN.out, (fun c => by cases c), HO3.out, HB3.out⟩
        case measure => simp [intOf, nilOne]; omega
      · obtain rfl : m = 0 := by omega
        have HL : Hid (l = dig n) := HD.out.stop (fun c => by rcases c with c | c; omega; exact hl c)
        have hl1 : 1 ≤ l.length := by cases l with | nil => exact absurd rfl hl | cons _ _ => exact Nat.succ_pos _
        have hbk := bytes_back hown hl1
        obtain ⟨g, cap, rfl⟩ := own_some hown hl1
        clear HS HD hnil hown hu hl hbl h0
        have hne : (((l.length : Nat) : Int) == 0) = false := by rw [beq_eq_false_iff_ne]; omega
        go_wp2
        go_ret
        exact ⟨by rw [HL.out]; rfl, HB.out⟩
/-- A loop over what is below 0. -/
theorem ofNat_dig (m : Nat) : ((UInt8.ofNat (48 + m % 10)).toNat : Int) = 48 + (m : Int) % 10 := by rw [byte_nat _ (by omega)]; omega
set_option maxRecDepth 20000 in
set_option maxHeartbeats 1600000 in
theorem digitsC (x : Int) (hx : in64 x) (w : World) :
    Calls Tryz.prog 33 #[.int .i64 x] w fun r w' => r = .returned (.string (mk (intD x))) ∧ Below w.heap.size w w' := by
  by_cases h0 : 0 ≤ x
  · obtain ⟨n, rfl⟩ := Int.eq_ofNat_of_zero_le h0
    have HI : Hid (intD (n : Int) = dig n) := intD_nat n
    have hn : n ≤ 9223372036854775807 := by have := hx.2; omega
    clear hx h0
    go_enter Tryz.func33, Tryz.ntmps33
    go_wp2_with fail
    refine (decimalC n hn w).mono ?_
    rintro e w1 ⟨rfl, b1⟩
    go_wp2
    go_ret
    exact ⟨by rw [HI.out]; rfl, b1⟩
  · obtain ⟨n, rfl⟩ : ∃ n : Nat, x = -(n : Int) := ⟨(-x).toNat, by omega⟩
    have hn : n ≤ 9223372036854775808 := by have := hx.1; omega
    have h1 : 1 ≤ n := by omega
    have HI : Hid (intD (-(n : Int)) = 45 :: dig n) := by
      unfold Hid intD
      rw [if_neg (by omega), Int.neg_neg, Int.toNat_natCast]
    clear hx h0
    go_enter Tryz.func33, Tryz.ntmps33
    go_wp2_with fail
    go_loopw [0, 3] (fun t v wr => ∃ (m : Nat) (l : List UInt8), t = .int .i64 (-(m : Int)) ∧ m ≤ n ∧ DigAt n m l ∧ v = .string (mk l) ∧ Below w.heap.size w wr) (fun t _ _ => (-(intOf t)).toNat)
    case atStart => exact ⟨n, [], rfl, Nat.le_refl _, DigAt.start n, rfl, Below.refl _ _⟩
    case round =>
      obtain ⟨m, l, rfl, hm, hd, rfl, hbl⟩ := hrel
      have HB : Hid (Below w.heap.size w wr) := hbl
      have h20 := hd.length
      have hz : (mk l).size ≤ 20 := by rw [mk_size']; exact h20
      by_cases h0 : 0 < m
      · have HN : Hid (DigAt n (m / 10) (UInt8.ofNat (48 + m % 10) :: l)) := hd.step (by omega) (.inl h0)
        have hu := ofNat_dig m
        clear hd hbl h20
        generalize UInt8.ofNat (48 + m % 10) = b at *
        have hbk := bytes_back (own_byte wr b) (by omega)
        rw [hu] at hbk
        have hz1 : (mk [b]).size = 1 := rfl
        go_wp2
        go_roundw
        case rel => exact ⟨m / 10, b :: l, by go_num, by omega, HN.out, congrArg Value.string (mk_app [b] l), HB.out.alloc HB.out.size _⟩
        case measure => simp [intOf]; omega
      · obtain rfl : m = 0 := by omega
        have HL : Hid (l = dig n) := hd.stop (fun c => by
          rcases c with c | c
          · omega
          · subst c
            rcases hd with ⟨_, h⟩ | ⟨h, _⟩ | ⟨h, _⟩
            · omega
            · exact h rfl
            · exact h rfl)
        clear hd h20 hbl
        go_wp2
        go_ret
        refine ⟨ret_text ?_, HB.out⟩
        rw [HI.out, ← HL.out]
        show mk [45] ++ mk l = _
        rw [mk_app]
        rfl
set_option maxRecDepth 20000 in
theorem intR (x : Int) (hx : in64 x) (w : World) : Calls Tryz.prog 13 #[.int .i64 x] w fun r w' => r = .returned (.string (mk (intM x))) ∧ Below w.heap.size w w' := by
  go_enter Tryz.func13, Tryz.ntmps13
  go_wp2_with fail
  refine (digitsC x hx w).mono ?_
  rintro e w1 ⟨rfl, b1⟩
  have hz : (mk (intD x)).size ≤ 20 := by rw [mk_size']; exact (length_intD x hx).2
  go_wp2
  go_ret
  refine ⟨ret_text ?_, b1⟩
  show mk [105] ++ mk (intD x) ++ mk [59] = _
  rw [mk_app, mk_app]
  rfl
theorem boolR (b : Bool) (w : World) : Calls Tryz.prog 15 #[.bool b] w fun r w' => r = .returned (.string (mk (boolM b))) ∧ w' = w := by
  cases b
  all_goals
    go_enter Tryz.func15, Tryz.ntmps15
    go_wp2
    go_ret
    exact ⟨rfl, rfl⟩
set_option maxRecDepth 20000 in
theorem bytesR (s : ByteArray) (hs : s.size ≤ 140737488355328) (w : World) : Calls Tryz.prog 17 #[.string s] w fun r w' => r = .returned (.string (mk (bytesM (bl s)))) ∧ Below w.heap.size w w' := by
  go_enter Tryz.func17, Tryz.ntmps17
  go_wp2_with fail
  refine (decimalC s.size (by omega) w).mono ?_
  rintro e w1 ⟨rfl, b1⟩
  have hz : (mk (dig s.size)).size ≤ 20 := by rw [mk_size']; exact length_dig _
  go_wp2
  go_ret
  refine ⟨ret_text ?_, b1⟩
  show mk [115] ++ mk (dig s.size) ++ mk [58] ++ s = _
  rw [← mk_of s, mk_app, mk_app, mk_app, bl_mk']
  unfold bytesM
  rw [bl_length, mk_of]
  simp
theorem flat_snoc (ss : List ByteArray) (i : Nat) (h : i < ss.length) : flat (ss.take (i + 1)) = flat (ss.take i) ++ bl (ss.getD i ByteArray.empty) := by
  unfold flat
  rw [List.take_succ_eq_append_getElem h, List.map_append, List.flatten_append, List.getD_eq_getElem?_getD, List.getElem?_eq_getElem h]
  simp
theorem flat_len_le (ss : List ByteArray) (i : Nat) : (flat (ss.take i)).length ≤ (flat ss).length := by
  have e : flat ss = flat (ss.take i) ++ flat (ss.drop i) := by
    unfold flat
    rw [← List.flatten_append, ← List.map_append, List.take_append_drop]
  rw [e, List.length_append]
  omega
set_option maxRecDepth 20000 in
set_option maxHeartbeats 800000 in
theorem allR (o : Option Addr) (cap : Nat) (ss : List ByteArray) (hl : (flat ss).length ≤ 140737488355328) (hn : ss.length ≤ 140737488355328) (w : World) (h : Hid (IsTx w o ss)) :
    Calls Tryz.prog 36 #[.slice o ss.length cap] w fun r w' => r = .returned (.string (mk (flat ss))) ∧ w' = w := by
  have HL : Hid (∀ i, (flat (ss.take i)).length ≤ (flat ss).length) := flat_len_le ss
  have HF : Hid (∀ i, i < ss.length → flat (ss.take (i + 1)) = flat (ss.take i) ++ bl (ss.getD i ByteArray.empty)) := flat_snoc ss
  go_enter Tryz.func36, Tryz.ntmps36
  go_wp2_with fail
  go_loop [3, 4] (fun v t => ∃ k : Nat, k ≤ ss.length ∧ t = .int .i64 (k : Int) ∧ v = .string (mk (flat (ss.take k)))) (fun _ t => ss.length - (intOf t).toNat)
  case atStart => exact ⟨0, Nat.zero_le _, rfl, rfl⟩
  case round =>
    obtain ⟨k, hk, rfl, rfl⟩ := hrel
    by_cases hlt : k < ss.length
    · obtain ⟨x, rfl, hx⟩ := tx_at h.out (by omega)
      have c1 := hx k hlt
      have HFK : Hid _ := HF.out k hlt
      have z0 := HL.out (k + 1)
      rw [HFK.out, List.length_append, bl_length] at z0
      have z1 : (mk (flat (ss.take k))).size + (ss.getD k ByteArray.empty).size ≤ 140737488355328 := by rw [mk_size']; omega
      have z2 : (mk (flat (ss.take k))).size ≤ 140737488355328 := by omega
      have z3 : (ss.getD k ByteArray.empty).size ≤ 140737488355328 := by omega
      clear hx z0
      generalize ss.getD k ByteArray.empty = u at *
      go_wp2
      go_round
      case rel => exact ⟨k + 1, by omega, by go_num, congrArg Value.string (by rw [HFK.out, ← mk_app, mk_of])⟩
      case measure => simp [intOf]; omega
    · obtain rfl : k = ss.length := by omega
      go_wp2
      go_ret
      exact ⟨rfl, rfl⟩
set_option maxRecDepth 20000 in
theorem listR (o : Option Addr) (cap : Nat) (ss : List ByteArray) (hl : (flat ss).length ≤ 140737488355328) (hn : ss.length ≤ 140737488355328) (w : World) (h : Hid (IsTx w o ss)) :
    Calls Tryz.prog 19 #[.slice o ss.length cap] w fun r w' => r = .returned (.string (mk (listM (ss.map bl)))) ∧ w' = w := by
  go_enter Tryz.func19, Tryz.ntmps19
  go_wp2_with fail
  refine (allR o cap ss hl hn w h).mono ?_
  rintro e w1 ⟨rfl, rfl⟩
  have hz : (mk (flat ss)).size ≤ 140737488355328 := by rw [mk_size']; exact hl
  go_wp2
  go_ret
  refine ⟨ret_text ?_, rfl⟩
  show mk [91] ++ mk (flat ss) ++ mk [93] = _
  rw [mk_app, mk_app]
  rfl
set_option maxRecDepth 20000 in
theorem structR (o : Option Addr) (cap : Nat) (ss : List ByteArray) (hl : (flat ss).length ≤ 140737488355328) (hn : ss.length ≤ 140737488355328) (w : World) (h : Hid (IsTx w o ss)) :
    Calls Tryz.prog 21 #[.slice o ss.length cap] w fun r w' => r = .returned (.string (mk (structM (ss.map bl)))) ∧ w' = w := by
  go_enter Tryz.func21, Tryz.ntmps21
  go_wp2_with fail
  refine (allR o cap ss hl hn w h).mono ?_
  rintro e w1 ⟨rfl, rfl⟩
  have hz : (mk (flat ss)).size ≤ 140737488355328 := by rw [mk_size']; exact hl
  go_wp2
  go_ret
  refine ⟨ret_text ?_, rfl⟩
  show mk [123] ++ mk (flat ss) ++ mk [125] = _
  rw [mk_app, mk_app]
  rfl
end Go.Proofs.YtejgjipmnmfkcaaGreatDoor.Val
