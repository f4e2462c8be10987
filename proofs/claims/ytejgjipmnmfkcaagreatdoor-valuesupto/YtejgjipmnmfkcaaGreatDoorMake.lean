/-
  The texts that values are made as; texts held against texts: contracts.
-/
import Derived.Test.YtejgjipmnmfkcaaGreatDoorOpenTexts
import Derived.Test.YtejgjipmnmfkcaaGreatDoorMem
import Derived.Test.YtejgjipmnmfkcaaGreatDoorShelf
import Derived.Test.YtejgjipmnmfkcaaGreatDoorHome
import Derived.Test.YtejgjipmnmfkcaaGreatDoorTk
import Derived.Test.YtejgjipmnmfkcaaGreatDoorRow
namespace Go.Proofs.YtejgjipmnmfkcaaGreatDoor.Val
open Go.ChangeShapes Go.WideShapes Go.ChangeAt Go.RowKit
open Texts

/-- Bytes as a text. -/
def mk (l : List UInt8) : ByteArray := ⟨l.toArray⟩
theorem bl_mk' (l : List UInt8) : bl (mk l) = l := bl_mk l
theorem mk_app (a b : List UInt8) : mk a ++ mk b = mk (a ++ b) := bl_inj (by rw [bl_append, bl_mk', bl_mk', bl_mk'])
theorem mk_of (s : ByteArray) : mk (bl s) = s := bl_back s
theorem mk_size' (l : List UInt8) : (mk l).size = l.length := by rw [← bl_length, bl_mk']
theorem numC (e : Int) (w : World) : Calls Tryz.prog 9 #[.int .i64 e] w fun r w' => r = .returned (.int .i64 e) ∧ w' = w := by
  go_enter Tryz.func9, Tryz.ntmps9
  go_wp2
  go_ret
  exact ⟨rfl, rfl⟩
theorem nullC (w : World) : Calls Tryz.prog 11 #[] w fun r w' => r = .returned (.string (mk nullM)) ∧ w' = w := by
  go_enter Tryz.func11, Tryz.ntmps11
  go_wp2
  go_ret
  exact ⟨rfl, rfl⟩
theorem boolC (b : Bool) (w : World) : Calls Tryz.prog 14 #[.bool b] w fun r w' => r = .returned (.string (mk (boolM b))) ∧ w' = w := by
  cases b
  all_goals
    go_enter Tryz.func14, Tryz.ntmps14
    go_wp2
    go_ret
    exact ⟨rfl, rfl⟩
theorem itoaC (x : Int) (l : List UInt8) (hx : in64 x) (hl : intD x = l) (w : World) (hw : Home w) :
    Calls Tryz.prog 32 #[.int .i64 x] w fun r w' => r = .returned (.string (mk l)) ∧ Below w.heap.size w w' := by
  refine (Tryz.strconv_Itoa x hx.1 hx.2 w hw.tab).mono ?_
  rintro e w' ⟨rfl, k, os, rfl⟩
  exact ⟨by rw [itoa_intD x hx, hl]; rfl, Lib.below_grow _ _ (Nat.le_refl _) _ _⟩
theorem ret_text {a b : ByteArray} (h : a = b) : Ending.returned (.string a) = .returned (.string b) := by rw [h]
set_option maxRecDepth 20000 in
theorem intC (x : Int) (hx : in64 x) (w : World) (hw : Home w) : Calls Tryz.prog 12 #[.int .i64 x] w fun r w' => r = .returned (.string (mk (intM x))) ∧ Below w.heap.size w w' := by
  go_enter Tryz.func12, Tryz.ntmps12
  go_wp2_with fail
  refine (itoaC x _ hx rfl w hw).mono ?_
  rintro e w1 ⟨rfl, b1⟩
  have hz : (mk (intD x)).size ≤ 20 := by rw [mk_size']; exact (length_intD x hx).2
  go_wp2
  go_ret
  refine ⟨ret_text ?_, b1⟩
  show mk [105] ++ mk (intD x) ++ mk [59] = _
  rw [mk_app, mk_app]
  rfl
set_option maxRecDepth 20000 in
theorem bytesC (s : ByteArray) (hs : s.size ≤ 140737488355328) (w : World) (hw : Home w) : Calls Tryz.prog 16 #[.string s] w fun r w' => r = .returned (.string (mk (bytesM (bl s)))) ∧ Below w.heap.size w w' := by
  go_enter Tryz.func16, Tryz.ntmps16
  go_wp2_with fail
  refine (itoaC _ (dig s.size) ⟨by omega, by omega⟩ (intD_nat _) w hw).mono ?_
  rintro e w1 ⟨rfl, b1⟩
  have hz : (mk (dig s.size)).size ≤ 20 := by rw [mk_size']; exact length_dig _
  go_wp2
  go_ret
  refine ⟨ret_text ?_, b1⟩
  show mk [115] ++ mk (dig s.size) ++ mk [58] ++ s = _
  rw [← mk_of s, mk_app, mk_app, mk_app, bl_mk']
  unfold bytesM
  rw [bl_length, mk_of]
  simp
/-- A list of texts that lie somewhere. -/
theorem addr_lit {x : Addr} {w : World} {v : Value} (h : w.cell? x = some v) : x = ⟨x.block, x.off, none⟩ := by
  obtain ⟨b, o, sp⟩ := x
  cases sp with
  | none => rfl
  | some t =>
    exfalso
    unfold World.cell? at h
    split at h
    · simp at h
    · cases h
theorem join_flat (xs : List (List UInt8)) : Lib.join xs [] = xs.flatten := by
  cases xs with
  | nil => rfl
  | cons x r =>
    rw [Lib.join_cons]
    unfold Lib.joinTail
    rw [show (fun x : List UInt8 => ([] : List UInt8) ++ x) = id from rfl, List.map_id]
    rfl
theorem joinC (o : Option Addr) (cap : Nat) (ss : List ByteArray) (hc : ss.length ≤ cap) (hl : (flat ss).length ≤ 140737488355328) (hn : ss.length ≤ 140737488355328) (w : World) (h : IsTx w o ss) :
    Calls Tryz.prog 35 #[.slice o ss.length cap, .string ⟨#[]⟩] w fun r w' => r = .returned (.string (mk (flat ss))) ∧ Below w.heap.size w w' := by
  rcases h.2 with rfl | ⟨x, rfl, hx⟩
  · refine (Tryz.strings_Join_none o cap ⟨#[]⟩ w).mono ?_
    rintro e w' ⟨rfl, rfl⟩
    exact ⟨rfl, Below.refl _ _⟩
  · cases ss with
    | nil =>
      refine (Tryz.strings_Join_none (some x) cap ⟨#[]⟩ w).mono ?_
      rintro e w' ⟨rfl, rfl⟩
      exact ⟨rfl, Below.refl _ _⟩
    | cons s0 ss0 =>
      generalize hss : s0 :: ss0 = ss at *
      have h0 := hx 0 (by rw [← hss]; exact Nat.succ_pos _)
      rw [show x.add 0 = x from by unfold Addr.add; split <;> simp_all] at h0
      have ex := addr_lit h0
      have hbk := World.block_lt_of_cell? _ _ h0
      have e : Lib.join (ss.map (·.data.toList)) (⟨#[]⟩ : ByteArray).data.toList = flat ss := join_flat _
      have hcells : ∀ (j : Nat) y, ss[j]? = some y → w.cell? ⟨x.block, x.off + j, none⟩ = some (.string y) := by
        intro j y hj
        have hjl : j < ss.length := (List.getElem?_eq_some_iff.1 hj).1
        have := hx j hjl
        rw [ex] at this
        rw [List.getD_eq_getElem?_getD, hj, Addr.add_lit] at this
        exact this
      have := Tryz.strings_Join x.block x.off cap ss ⟨#[]⟩ w hcells hbk hn hc (by rw [e]; exact hl)
      rw [e, ← ex] at this
      exact this
set_option maxRecDepth 20000 in
theorem listC (o : Option Addr) (cap : Nat) (ss : List ByteArray) (hc : ss.length ≤ cap) (hl : (flat ss).length ≤ 140737488355328) (hn : ss.length ≤ 140737488355328) (w : World) (h : IsTx w o ss) :
    Calls Tryz.prog 18 #[.slice o ss.length cap] w fun r w' => r = .returned (.string (mk (listM (ss.map bl)))) ∧ Below w.heap.size w w' := by
  go_enter Tryz.func18, Tryz.ntmps18
  go_wp2_with fail
  refine (joinC o cap ss hc hl hn w h).mono ?_
  rintro e w1 ⟨rfl, b1⟩
  have hz : (mk (flat ss)).size ≤ 140737488355328 := by rw [mk_size']; exact hl
  go_wp2
  go_ret
  refine ⟨ret_text ?_, b1⟩
  show mk [91] ++ mk (flat ss) ++ mk [93] = _
  rw [mk_app, mk_app]
  rfl
set_option maxRecDepth 20000 in
theorem structC (o : Option Addr) (cap : Nat) (ss : List ByteArray) (hc : ss.length ≤ cap) (hl : (flat ss).length ≤ 140737488355328) (hn : ss.length ≤ 140737488355328) (w : World) (h : IsTx w o ss) :
    Calls Tryz.prog 20 #[.slice o ss.length cap] w fun r w' => r = .returned (.string (mk (structM (ss.map bl)))) ∧ Below w.heap.size w w' := by
  go_enter Tryz.func20, Tryz.ntmps20
  go_wp2_with fail
  refine (joinC o cap ss hc hl hn w h).mono ?_
  rintro e w1 ⟨rfl, b1⟩
  have hz : (mk (flat ss)).size ≤ 140737488355328 := by rw [mk_size']; exact hl
  go_wp2
  go_ret
  refine ⟨ret_text ?_, b1⟩
  show mk [123] ++ mk (flat ss) ++ mk [125] = _
  rw [mk_app, mk_app]
  rfl
/-- Texts held against the same texts. -/
theorem tx_at {w : World} {o : Option Addr} {ss : List ByteArray} (h : IsTx w o ss) (h1 : 1 ≤ ss.length) : ∃ x, o = some x ∧ LiesT w x ss := by
  rcases h.2 with rfl | h
  · cases h1
  · exact h
theorem same_no (t : ByteArray) : (t.toList != t.toList) = false := by rw [bne_eq_false_iff_eq]
set_option maxRecDepth 20000 in
set_option maxHeartbeats 800000 in
theorem sameTexts (o p : Option Addr) (c d : Nat) (ss : List ByteArray) (hn : ss.length ≤ 140737488355328) (w : World) (ho : Hid (IsTx w o ss)) (hp : Hid (IsTx w p ss)) :
    Calls Tryz.prog 8 #[.slice o ss.length c, .slice p ss.length d] w fun r w' => r = .returned (.bool true) ∧ Below w.heap.size w w' := by
  have hq : (((ss.length : Nat) : Int) != ((ss.length : Nat) : Int)) = false := by rw [bne_eq_false_iff_eq]
  go_enter Tryz.func8, Tryz.ntmps8
  go_wp2_with fail
  go_loopw [5] (fun t wr => ∃ k : Nat, k ≤ ss.length ∧ t = .int .i64 (k : Int) ∧ Below w.heap.size w wr) (fun t _ => ss.length - (intOf t).toNat)
  case atStart => exact ⟨0, Nat.zero_le _, rfl, Below.refl _ _⟩
  case round =>
    obtain ⟨k, hk, rfl, hbl⟩ := hrel
    by_cases hlt : k < ss.length
    · obtain ⟨x, rfl, hx⟩ := tx_at ho.out (by omega)
      obtain ⟨y, rfl, hy⟩ := tx_at hp.out (by omega)
      have c1 := Tree.cell_later hbl (hx k hlt)
      have c2 := Tree.cell_later hbl (hy k hlt)
      have hne := same_no (ss.getD k ByteArray.empty)
      have j0 : (0 : Int) ≤ (k : Int) := Int.natCast_nonneg _
      have j1 : (k : Int) < (ss.length : Int) := by omega
      clear hx hy
      generalize ss.getD k ByteArray.empty = u at *
      go_wp2_with fail
      go_quiet (fail)
      have HB : Hid (Below w.heap.size w (wr.drewN nq)) := below_drewN hbl nq
      clear hbl
      go_wp2
      go_roundw
      case rel => exact ⟨k + 1, by omega, by go_num, HB.out⟩
      case measure => simp [intOf]; omega
    · obtain rfl : k = ss.length := by omega
      go_wp2
      go_ret
      exact ⟨rfl, hbl⟩
end Go.Proofs.YtejgjipmnmfkcaaGreatDoor.Val
