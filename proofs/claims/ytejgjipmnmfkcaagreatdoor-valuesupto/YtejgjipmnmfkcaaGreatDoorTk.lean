/-
  A taker in a block; the worlds that a taker's work leads through; isDone, sign, upTo, number, digits, bytes: contracts.
-/
import Derived.Test.YtejgjipmnmfkcaaGreatDoorRows
import Derived.Test.YtejgjipmnmfkcaaGreatDoorShelf
import Derived.Test.YtejgjipmnmfkcaaGreatDoorHome
import Derived.Test.YtejgjipmnmfkcaaGreatDoorDig
import Derived.Test.YtejgjipmnmfkcaaGreatDoorVal
import Derived.Test.YtejgjipmnmfkcaaGreatDoorParts
import Derived.Test.YtejgjipmnmfkcaaGreatDoorPlaces
import Derived.Test.YtejgjipmnmfkcaaGreatDoorDigLib
import Derived.WalkKit
import Derived.ProofKit
import Derived.Below
import Derived.RegionTactic
import Derived.ChangeAlike
import Derived.OwnWalk
import Derived.Deep.QuietTactic
import Derived.BigQuiet
import Derived.WalkSmall
import Derived.Lib.AppendIntMem
import Derived.Lib.AtoiErrMem
namespace Go.Proofs.YtejgjipmnmfkcaaGreatDoor.Val
open Go.ChangeShapes Go.WideShapes Go.ChangeAt Go.RowKit

/-- A taker of a text, so far come. -/
structure Tk (w : World) (b : Nat) (s : ByteArray) (p : Nat) : Prop where
  blk : w.heap[b]? = some (.cells #[.string s, .int .i64 (p : Int)] 66 (0, 0))
theorem Tk.lt {w : World} {b : Nat} {s : ByteArray} {p : Nat} (h : Tk w b s p) : b < w.heap.size := by
  by_cases c : b < w.heap.size
  · exact c
  · have := h.blk
    rw [Array.getElem?_eq_none (by omega)] at this
    cases this
theorem Tk.text {w : World} {b : Nat} {s : ByteArray} {p : Nat} (h : Tk w b s p) : w.cell? ⟨b, 0, none⟩ = some (.string s) := by simp [World.cell?, h.blk]
theorem Tk.at {w : World} {b : Nat} {s : ByteArray} {p : Nat} (h : Tk w b s p) : w.cell? ⟨b, 1, none⟩ = some (.int .i64 (p : Int)) := by simp [World.cell?, h.blk]
theorem Tk.fz {w : World} {b : Nat} {s : ByteArray} {p : Nat} (h : Tk w b s p) : w.frozen? ⟨b, 1, none⟩ = false := by simp [World.frozen?, h.blk]
theorem Tk.set {w : World} {b : Nat} {s : ByteArray} {p : Nat} (h : Tk w b s p) (q : Nat) : Tk (w.setCell ⟨b, 1, none⟩ (.int .i64 (q : Int))) b s q := by
  refine ⟨?_⟩
  simp only [World.setCell, Array.getElem?_modify, if_true, h.blk, Option.map_some]
  rfl
/-- What stands but for one block. -/
structure Mv (b : Nat) (w w' : World) : Prop where
  os : w'.os = w.os
  tape : w'.tape = w.tape
  output : w'.output = w.output
  size : w.heap.size ≤ w'.heap.size
  block : ∀ k, k < w.heap.size → k ≠ b → w'.heap[k]? = w.heap[k]?
theorem Mv.refl (b : Nat) (w : World) : Mv b w w := ⟨rfl, rfl, rfl, Nat.le_refl _, fun _ _ _ => rfl⟩
theorem Mv.trans {b : Nat} {u v w : World} (h : Mv b u v) (k : Mv b v w) : Mv b u w :=
  ⟨k.os.trans h.os, k.tape.trans h.tape, k.output.trans h.output, Nat.le_trans h.size k.size, fun i hi hb => (k.block i (Nat.lt_of_lt_of_le hi h.size) hb).trans (h.block i hi hb)⟩
theorem Mv.of {b : Nat} {w w' : World} (h : Below w.heap.size w w') : Mv b w w' := ⟨h.os, h.tape, h.output, h.size, fun k hk _ => h.block k hk⟩
theorem Mv.set (b : Nat) (w : World) (o : Nat) (v : Value) : Mv b w (w.setCell ⟨b, o, none⟩ v) := ⟨rfl, rfl, rfl, by simp [World.setCell], fun k _ hk => Below.heap_setCell _ _ _ _ hk⟩
theorem Mv.below {b B : Nat} {w w' : World} (h : Mv b w w') (hB : B ≤ b) (hw : B ≤ w.heap.size) : Below B w w' := ⟨h.os, h.tape, h.output, h.size, fun k hk => h.block k (by omega) (by omega)⟩
theorem Tk.later {w w' : World} {b : Nat} {s : ByteArray} {p : Nat} (h : Tk w b s p) (hb : Below w.heap.size w w') : Tk w' b s p := ⟨(hb.block b h.lt).trans h.blk⟩
theorem Home.move {b : Nat} {w w' : World} (h : Home w) (hm : Mv b w w') (hb : 6 ≤ b) : Home w' := h.same fun k h6 hk => hm.block k hk (by omega)
theorem drewN_below (w : World) (n : Nat) : Below w.heap.size w (w.drewN n) := below_drewN (Below.refl _ _) n
theorem bel2 {a b c : World} (h : Below a.heap.size a b) (k : Below b.heap.size b c) : Below a.heap.size a c := h.trans (k.mono h.size)

set_option maxRecDepth 20000 in
set_option maxHeartbeats 800000 in
theorem doneC (b : Nat) (s : ByteArray) (p : Nat) (d : Bool) (hd : (((p : Int) == (s.size : Int))) = d) (w : World) (h : Tk w b s p) :
    Calls Tryz.prog 45 #[.pointer (some ⟨b, 0, none⟩)] w fun r w' => r = .returned (.bool d) ∧ ∃ m, w' = w.drewN m := by
  have h0 := h.text
  have h1 := h.at
  clear h
  go_enter Tryz.func45, Tryz.ntmps45
  go_wp2_with fail
  go_quiet (fail)
  go_wp2
  go_ret
  exact ⟨rfl, _, rfl⟩
theorem Tk.go {w : World} {b : Nat} {s : ByteArray} {p : Nat} (h : Tk w b s p) (q : Nat) (z : Int) (hz : z = (q : Int)) : ∃ w1, w.setCell ⟨b, 1, none⟩ (.int .i64 z) = w1 ∧ Tk w1 b s q ∧ Mv b w w1 := by
  subst hz
  exact ⟨_, rfl, h.set q, Mv.set b w 1 _⟩
set_option maxRecDepth 20000 in
set_option maxHeartbeats 800000 in
theorem signC (b : Nat) (s : ByteArray) (p : Nat) (c : Nat) (hp : p < s.size) (hs : s.size ≤ 65536) (hc : ((s[p].toNat : Nat) : Int) = (c : Int)) (w : World) (h : Tk w b s p) :
    Calls Tryz.prog 66 #[.pointer (some ⟨b, 0, none⟩)] w fun r w' => r = .returned (.int .u8 (c : Int)) ∧ Tk w' b s (p + 1) ∧ Mv b w w' := by
  have h0 := h.text
  have h1 := h.at
  have h2 := h.fz
  obtain ⟨w1, e1, t1, m1⟩ := h.go (p + 1) ((p : Int) + 1) (by omega)
  clear h
  have i0 : (0 : Int) ≤ (p : Int) := Int.natCast_nonneg _
  have i1 : (p : Int) < (s.size : Int) := by omega
  go_enter Tryz.func66, Tryz.ntmps66
  go_wp2_with fail
  clear h0 h1 h2 e1
  have h0 := t1.text
  have h1 := t1.at
  rw [show ((p + 1 : Nat) : Int) = (p : Int) + 1 from by omega] at h1
  have x1 : IntKind.i64.wrap ((p : Int) + 1 - 1) = (p : Int) := by rw [IntKind.wrap_i64]; omega
  go_quiet (fail)
  go_wp2
  go_ret
  exact ⟨rfl, t1.later (drewN_below _ _), m1.trans (Mv.of (drewN_below _ _))⟩
theorem bl_rest (s : ByteArray) (p : Nat) : (s.extract p s.size).data.toList = (bl s).drop p := by
  have := bl_extract s p s.size
  rw [← bl_length, List.take_length] at this
  rw [← this, bl_length]
  rfl
theorem sign_byte (c : Nat) : ((c : Int)).toNat.toUInt8 = UInt8.ofNat c := by rw [Int.toNat_natCast]
theorem idxY (s : ByteArray) (p c j : Nat) (hk : FirstAt s p (UInt8.ofNat c) (p + j)) (w : World) :
    Calls Tryz.prog 92 #[.string (s.extract p s.size), .int .u8 (c : Int)] w fun r w' => r = .returned (.int .i64 (j : Int)) ∧ w' = w := by
  have h := Tryz.strings_IndexByte (s.extract p s.size) (c : Int) w
  rw [bl_rest, sign_byte, index_seek, seek_first hk, Nat.add_sub_cancel_left] at h
  exact h
theorem idxN (s : ByteArray) (p c : Nat) (hk : seek (UInt8.ofNat c) ((bl s).drop p) = none) (w : World) :
    Calls Tryz.prog 92 #[.string (s.extract p s.size), .int .u8 (c : Int)] w fun r w' => r = .returned (.int .i64 (-1)) ∧ w' = w := by
  have h := Tryz.strings_IndexByte (s.extract p s.size) (c : Int) w
  rw [bl_rest, sign_byte, index_seek, hk] at h
  exact h
set_option maxRecDepth 20000 in
set_option maxHeartbeats 800000 in
theorem upToY (b : Nat) (s : ByteArray) (p c j : Nat) (hs : s.size ≤ 65536) (hk : Hid (FirstAt s p (UInt8.ofNat c) (p + j))) (w : World) (h : Tk w b s p) :
    Calls Tryz.prog 85 #[.pointer (some ⟨b, 0, none⟩), .int .u8 (c : Int)] w fun r w' => r = .returned (.tuple #[.string (s.extract p (p + j)), .bool true]) ∧ Tk w' b s (p + j + 1) ∧ Mv b w w' := by
  have h0 := h.text
  have h1 := h.at
  have hp2 : p + j < s.size := hk.out.2.1
  have i0 : (0 : Int) ≤ (p : Int) := Int.natCast_nonneg _
  have i1 : (p : Int) ≤ (s.size : Int) := by omega
  go_enter Tryz.func85, Tryz.ntmps85
  go_wp2_with fail
  go_quiet ((go_at_call 92; exact Calls.quiet_of_same (idxY s p c j hk.out _)))
  have hd := drewN_below w nq
  have h' := h.later hd
  generalize w.drewN nq = w1 at *
  have h0 := h'.text
  have h1 := h'.at
  have h2 := h'.fz
  have x1 : IntKind.i64.wrap ((j : Int) + 1) = (j : Int) + 1 := by rw [IntKind.wrap_i64]; omega
  have x2 : IntKind.i64.wrap ((p : Int) + ((j : Int) + 1)) = (p : Int) + ((j : Int) + 1) := by rw [IntKind.wrap_i64]; omega
  obtain ⟨w2, e2, t2, m2⟩ := h'.go (p + j + 1) ((p : Int) + ((j : Int) + 1)) (by omega)
  have h3 := t2.text
  have q1 : (p : Int) ≤ (p : Int) + (j : Int) := by omega
  have q2 : (p : Int) + (j : Int) ≤ (s.size : Int) := by omega
  have q0 : (0 : Int) ≤ (p : Int) + (j : Int) := by omega
  have q3 : ((p : Int) + (j : Int)).toNat = p + j := by omega
  have H2 : Hid (Tk w2 b s (p + j + 1) ∧ Mv b w w2) := ⟨t2, (Mv.of hd).trans m2⟩
  clear hk h h' hd t2 m2
  go_wp2
  go_ret2
  exact ⟨rfl, H2.out⟩
set_option maxRecDepth 20000 in
set_option maxHeartbeats 800000 in
theorem upToN (b : Nat) (s : ByteArray) (p c : Nat) (hp : p ≤ s.size) (hk : Hid (seek (UInt8.ofNat c) ((bl s).drop p) = none)) (w : World) (h : Tk w b s p) :
    Calls Tryz.prog 85 #[.pointer (some ⟨b, 0, none⟩), .int .u8 (c : Int)] w fun r w' => r = .returned (.tuple #[.string ByteArray.empty, .bool false]) ∧ Tk w' b s p ∧ Mv b w w' := by
  have h0 := h.text
  have h1 := h.at
  have i0 : (0 : Int) ≤ (p : Int) := Int.natCast_nonneg _
  have i1 : (p : Int) ≤ (s.size : Int) := by omega
  go_enter Tryz.func85, Tryz.ntmps85
  go_wp2_with fail
  go_quiet ((go_at_call 92; exact Calls.quiet_of_same (idxN s p c hk.out _)))
  have hd := drewN_below w nq
  have H2 : Hid (Tk (w.drewN nq) b s p ∧ Mv b w (w.drewN nq)) := ⟨h.later hd, Mv.of hd⟩
  clear hk h hd
  go_wp2
  go_ret2
  exact ⟨rfl, H2.out⟩
/-- The library's reading and writing of a number, as this program meets them. -/
theorem fmtC (x : Int) (l : List UInt8) (hx : in64 x) (hl : Lib.itoa x = l) (w : World) (hw : Home w) :
    Calls Tryz.prog 94 #[.int .i64 x, .int .i64 10] w fun r w' => r = .returned (.string ⟨l.toArray⟩) ∧ Below w.heap.size w w' := by
  refine (Tryz.strconv_FormatInt_10 x hx.1 hx.2 w hw.tab).mono ?_
  rintro e w' ⟨rfl, k, os, rfl⟩
  exact ⟨by rw [hl], Lib.below_grow _ _ (Nat.le_refl _) _ _⟩
theorem parseY (s : ByteArray) (x : Int) (hs : s.size ≤ 65536) (h : Lib.parseIntB 64 s.data.toList = .ok x) (w : World) :
    Calls Tryz.prog 93 #[.string s, .int .i64 10, .int .i64 64] w fun r w' => r = .returned (.tuple #[.int .i64 x, .nilIface]) ∧ Below w.heap.size w w' := by
  refine (Tryz.strconv_ParseInt_10_at64_ok s (by omega) x h w).mono ?_
  rintro e w' ⟨rfl, hw⟩
  refine ⟨rfl, ?_⟩
  rcases hw with rfl | ⟨t, rfl⟩
  · exact Below.refl _ _
  · exact Lib.bytesWorld_below _ _ _
theorem parseN (s : ByteArray) (hs : s.size ≤ 65536) (h : ∀ x, Lib.parseIntB 64 s.data.toList ≠ .ok x) (w : World) (hw : Home w) :
    Calls Tryz.prog 93 #[.string s, .int .i64 10, .int .i64 64] w fun r w' => ∃ y N, r = .returned (.tuple #[.int .i64 y, .iface 135 (.pointer (some ⟨N, 0, none⟩))]) ∧ Below w.heap.size w w' := by
  obtain ⟨tp, q, hv⟩ := hw.syn
  obtain ⟨tp2, q2, hv2⟩ := hw.rng
  cases c : Lib.parseIntB 64 s.data.toList
  · exact absurd c (h _)
  · refine (Any.strconv_ParseInt_10_at64_syntax_var Tryz.laysC174 s (by omega) c tp q w hv).mono ?_
    rintro e w' ⟨N, rfl, _, _, hb⟩
    exact ⟨_, N, rfl, hb⟩
  · refine (Tryz.strconv_ParseInt_10_at64_range_var s (by omega) c tp2 q2 w hv2).mono ?_
    rintro e w' ⟨N, rfl, _, _, hb⟩
    exact ⟨_, N, rfl, hb⟩
theorem texts_part {u s : ByteArray} (h : u ≠ s) : (u.toList == s.toList) = false := by
  rw [Go.ByteArray.toList_eq, Go.ByteArray.toList_eq]
  cases c : (u.data.toList == s.data.toList)
  · rfl
  · have e : u.data.toList = s.data.toList := by simpa using c
    refine absurd ?_ h
    have e2 : u.data = s.data := Array.toList_inj.1 e
    cases u
    cases s
    simpa using e2
set_option maxRecDepth 20000 in
set_option maxHeartbeats 800000 in
theorem numberY (s : ByteArray) (x : Int) (hs : s.size ≤ 65536) (hx : Hid (numOf (bl s) = some x)) (w : World) (hw : Hid (Home w)) :
    Calls Tryz.prog 86 #[.string s] w fun r w' => r = .returned (.tuple #[.int .i64 x, .bool true]) ∧ Below w.heap.size w w' := by
  obtain ⟨h1, h2, h3⟩ := parse_some hx.out
  have H2 : Hid (Lib.itoa x = bl s) := h2
  have H3 : Hid (in64 x) := h3
  clear h2 h3
  go_enter Tryz.func86, Tryz.ntmps86
  go_wp2_with fail
  refine (parseY s x hs h1 w).mono ?_
  rintro e w1 ⟨rfl, b1⟩
  go_wp2_with fail
  refine (fmtC x (bl s) H3.out H2.out w1 (hw.out.later b1)).mono ?_
  rintro e w2 ⟨rfl, b2⟩
  rw [bl_back]
  go_wp2
  go_ret2
  exact ⟨rfl, bel2 b1 b2⟩
set_option maxRecDepth 20000 in
set_option maxHeartbeats 800000 in
theorem numberN (s : ByteArray) (hs : s.size ≤ 65536) (hx : Hid (numOf (bl s) = none)) (w : World) (hw : Hid (Home w)) :
    Calls Tryz.prog 86 #[.string s] w fun r w' => ∃ y, r = .returned (.tuple #[.int .i64 y, .bool false]) ∧ Below w.heap.size w w' := by
  by_cases c : ∃ x, Lib.parseIntB 64 s.data.toList = .ok x
  · obtain ⟨x, h1⟩ := c
    obtain ⟨h2, h3⟩ := parse_none hx.out h1
    have H3 : Hid (in64 x) := h3
    have hn : ((⟨(Lib.itoa x).toArray⟩ : ByteArray).toList == s.toList) = false := texts_part fun e => h2 (by rw [← e, bl_mk])
    obtain ⟨t, et⟩ : ∃ t : ByteArray, t = ⟨(Lib.itoa x).toArray⟩ := ⟨_, rfl⟩
    rw [← et] at hn
    have HT : Hid (t = ⟨(Lib.itoa x).toArray⟩) := et
    clear h2 h3 et
    go_enter Tryz.func86, Tryz.ntmps86
    go_wp2_with fail
    refine (parseY s x hs h1 w).mono ?_
    rintro e w1 ⟨rfl, b1⟩
    go_wp2_with fail
    refine (fmtC x _ H3.out rfl w1 (hw.out.later b1)).mono ?_
    rintro e w2 ⟨rfl, b2⟩
    rw [← HT.out]
    go_wp2
    go_ret2
    exact ⟨_, rfl, bel2 b1 b2⟩
  · go_enter Tryz.func86, Tryz.ntmps86
    go_wp2_with fail
    refine (parseN s hs (fun x h => c ⟨x, h⟩) w hw.out).mono ?_
    rintro e w1 ⟨y, N, rfl, b1⟩
    clear c
    go_wp2
    go_ret2
    exact ⟨_, rfl, b1⟩
theorem extract_size (s : ByteArray) (a b : Nat) (h : s.size ≤ 65536) : (s.extract a b).size ≤ 65536 := by
  rw [ByteArray.size_extract]
  omega
set_option maxRecDepth 20000 in
set_option maxHeartbeats 800000 in
theorem digitsY (b : Nat) (s : ByteArray) (p j : Nat) (x : Int) (hs : s.size ≤ 65536) (hk : Hid (numAt 59 ((bl s).drop p) = some (j, x))) (w : World) (h : Hid (Tk w b s p)) (hw : Hid (Home w)) (h6 : Hid (6 ≤ b)) :
    Calls Tryz.prog 76 #[.pointer (some ⟨b, 0, none⟩)] w fun r w' => r = .returned (.tuple #[.string (s.extract p (p + j)), .bool true]) ∧ Tk w' b s (p + j + 1) ∧ Mv b w w' := by
  obtain ⟨k1, k2⟩ := numAt_some.1 hk.out
  have k3 : Hid (FirstAt s p 59 (p + j)) := first_seek k1
  have k4 : Hid (numOf (bl (s.extract p (p + j))) = some x) := by
    unfold Hid
    rw [← take_drop_extract, Nat.add_sub_cancel_left]
    exact k2
  clear k1 k2 hk
  go_enter Tryz.func76, Tryz.ntmps76
  go_wp2_with fail
  refine (upToY b s p 59 j hs k3 w h.out).mono ?_
  rintro e w1 ⟨rfl, t1, m1⟩
  go_wp2_with fail
  refine (numberY _ x (extract_size _ _ _ hs) k4 w1 (hw.out.move m1 h6.out)).mono ?_
  rintro e w2 ⟨rfl, b2⟩
  have H2 : Hid (Tk w2 b s (p + j + 1) ∧ Mv b w w2) := ⟨t1.later b2, m1.trans (Mv.of b2)⟩
  clear t1 m1 b2
  go_wp2
  go_ret2
  exact ⟨rfl, H2.out⟩
set_option maxRecDepth 20000 in
set_option maxHeartbeats 800000 in
theorem digitsN (b : Nat) (s : ByteArray) (p : Nat) (hp : p ≤ s.size) (hs : s.size ≤ 65536) (hk : Hid (numAt 59 ((bl s).drop p) = none)) (w : World) (h : Hid (Tk w b s p)) (hw : Hid (Home w)) (h6 : Hid (6 ≤ b)) :
    Calls Tryz.prog 76 #[.pointer (some ⟨b, 0, none⟩)] w fun r w' => ∃ t q, r = .returned (.tuple #[.string t, .bool false]) ∧ p ≤ q ∧ q ≤ s.size ∧ Tk w' b s q ∧ Mv b w w' := by
  cases c : seek 59 ((bl s).drop p) with
  | none =>
    have C : Hid (seek 59 ((bl s).drop p) = none) := c
    clear c hk
    go_enter Tryz.func76, Tryz.ntmps76
    go_wp2_with fail
    refine (upToN b s p 59 hp C w h.out).mono ?_
    rintro e w1 ⟨rfl, t1, m1⟩
    have H2 : Hid (Tk w1 b s p ∧ Mv b w w1) := ⟨t1, m1⟩
    clear t1 m1
    go_wp2
    go_ret2
    exact ⟨_, p, rfl, Nat.le_refl _, hp, H2.out⟩
  | some j =>
    have k3 : Hid (FirstAt s p 59 (p + j)) := first_seek c
    have k4 : Hid (numOf (bl (s.extract p (p + j))) = none) := by
      unfold Hid
      rw [← take_drop_extract, Nat.add_sub_cancel_left]
      have := hk.out
      unfold numAt at this
      rw [c] at this
      simpa using this
    have k5 : p + j < s.size := k3.out.2.1
    clear c hk
    go_enter Tryz.func76, Tryz.ntmps76
    go_wp2_with fail
    refine (upToY b s p 59 j hs k3 w h.out).mono ?_
    rintro e w1 ⟨rfl, t1, m1⟩
    go_wp2_with fail
    refine (numberN _ (extract_size _ _ _ hs) k4 w1 (hw.out.move m1 h6.out)).mono ?_
    rintro e w2 ⟨y, rfl, b2⟩
    have H2 : Hid (Tk w2 b s (p + j + 1) ∧ Mv b w w2) := ⟨t1.later b2, m1.trans (Mv.of b2)⟩
    clear t1 m1 b2
    go_wp2
    go_ret2
    exact ⟨_, p + j + 1, rfl, by omega, by omega, H2.out⟩
end Go.Proofs.YtejgjipmnmfkcaaGreatDoor.Val
