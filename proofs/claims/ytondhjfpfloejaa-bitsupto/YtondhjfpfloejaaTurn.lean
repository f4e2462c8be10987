/-
  What the functions of package bits that write compute: turn, each, Set, Count and their closures: contracts.
-/
import Derived.Test.YtondhjfpfloejaaRows
import Derived.Test.YtondhjfpfloejaaPlain
import Derived.Test.YtondhjfpfloejaaBit
import Derived.WalkKit
import Derived.ProofKit
import Derived.OpenShut
import Derived.Below
import Derived.Laws.IdiomStrings
namespace Go.Proofs.Ytondhjfpfloejaa.Bit
open Go.ChangeShapes Go.WideShapes Go.ChangeAt Go.RowKit

/-- So many bytes lie at the head of block g, and may be written. -/
structure Bytes (w : World) (g : Nat) (l : List UInt8) : Prop where
  cell : ∀ i, i < l.length → w.cell? ⟨g, i, none⟩ = some (.int .u8 (((l.getD i 0).toNat : Nat) : Int))
  free : ∀ i, i < l.length → w.frozen? ⟨g, i, none⟩ = false
theorem Bytes.set {w : World} {g : Nat} {l : List UInt8} (h : Bytes w g l) (j : Nat) (hj : j < l.length) (v : UInt8) : Bytes (w.setCell ⟨g, j, none⟩ (.int .u8 ((v.toNat : Nat) : Int))) g (l.set j v) := by
  constructor
  · intro i hi
    rw [List.length_set] at hi
    by_cases e : i = j
    · subst e
      rw [World.cell?_setCell_same _ _ _ (h.cell i hi), List.getD_eq_getElem?_getD, List.getElem?_set_self hi]
      rfl
    · rw [World.cell?_setCell_other _ _ _ _ (by intro c; exact e (by injection c with _ c2; exact c2.symm)), h.cell i hi, List.getD_eq_getElem?_getD, List.getD_eq_getElem?_getD, List.getElem?_set_ne (fun c => e c.symm)]
  · intro i hi
    rw [List.length_set] at hi
    rw [World.frozen?_setCell]
    exact h.free i hi
theorem Bytes.below {w w' : World} {g B : Nat} {l : List UInt8} (h : Bytes w g l) (b : Below B w w') (hg : g < B) : Bytes w' g l :=
  ⟨fun i hi => by rw [b.cell (p := ⟨g, i, none⟩) hg]; exact h.cell i hi, fun i hi => by rw [b.frozen (p := ⟨g, i, none⟩) hg]; exact h.free i hi⟩

set_option maxHeartbeats 400000 in
theorem turn (g L c : Nat) (l : List UInt8) (hl : L = l.length) (x : Int) (on : Bool) (w : World) (h0 : 0 ≤ x) (h1 : x < 8 * (l.length : Int)) (hL : l.length ≤ 140737488351232) (hb : Bytes w g l) :
    Calls Try.prog 22 #[.slice (some ⟨g, 0, none⟩) L c, .int .u64 x, .bool on] w fun r w' => r = .returned (.tuple #[]) ∧
      w' = w.setCell ⟨g, x.toNat / 8, none⟩ (.int .u8 (((UInt8.ofNat (Plain.turn (l.getD (x.toNat / 8) 0).toNat (x.toNat % 8) on)).toNat : Nat) : Int)) := by
  obtain ⟨n, rfl⟩ := Int.eq_ofNat_of_zero_le h0
  rw [Int.toNat_natCast, Plain.setB_byte, hl]
  clear hl L
  have hlt : n / 8 < l.length := by omega
  have hc := hb.cell (n / 8) hlt
  have hf := hb.free (n / 8) hlt
  have hx : (l.getD (n / 8) 0).toNat < 256 := Plain.byte_lt _
  have hm : bits BinOp.and IntKind.u64 (↑n) 7 = ((n % 8 : Nat) : Int) := Plain.and7 n
  have hr : n % 8 < 8 := Nat.mod_lt _ (by decide)
  generalize n % 8 = r at *
  generalize (l.getD (n / 8) 0).toNat = x at *
  clear hb
  cases on
  · have ht : bits BinOp.andNot IntKind.u8 (↑x) (2 ^ r % 256) = _ := Plain.andNot_byte x r hx hr
    go_enter Try.func22, Try.ntmps22
    go_wp2
    go_end0
    exact ⟨rfl, rfl⟩
  · have ht : bits BinOp.or IntKind.u8 (↑x) (2 ^ r % 256) = _ := Plain.or_byte x r hx hr
    go_enter Try.func22, Try.ntmps22
    go_wp2
    go_end0
    exact ⟨rfl, rfl⟩
set_option maxHeartbeats 800000 in
theorem each (F : Nat) (hF : F = 24 ∨ F = 27) (b : Nat) (I : Nat → World → Prop) (s : ByteArray) (a c : Int) (w : World) (hs : s.size ≤ 140737488351232) (h0 : 0 ≤ a) (h1 : 0 ≤ c) (h2 : a + c ≤ 8 * (s.size : Int))
    (hI : I 0 w) (hstep : Hid (∀ (k : Nat) (w : World), (k : Int) < c → I k w → Calls Try.prog F #[.int .u64 (k : Int), .bool (Plain.bit s.data.toList (a.toNat + k)), .pointer (some ⟨b, 0, none⟩)] w fun r w' => r = .returned (.tuple #[]) ∧ I (k + 1) w')) :
    Calls Try.prog 23 #[.string s, .int .u64 a, .int .u64 c, .func (.func F) #[] #[.pointer (some ⟨b, 0, none⟩)]] w fun r w' => r = .returned (.tuple #[]) ∧ I c.toNat w' := by
  rcases hF with rfl | rfl
  all_goals
    go_enter Try.func23, Try.ntmps23
    go_wp2_with fail
    go_loopw [10] (fun i wr => ∃ k : Nat, (k : Int) ≤ c ∧ i = .int .u64 k ∧ I k wr) (fun i _ => c.toNat - (intOf i).toNat)
    case atStart => exact ⟨0, h1, rfl, hI⟩
    case round =>
      obtain ⟨k, hk, rfl, hik⟩ := hrel
      by_cases hlt : (k : Int) < c
      · go_wp2_with fail
        refine (isOn _ _ (by omega) (by omega) _).mono ?_
        rintro e w' ⟨rfl, rfl⟩
        rw [show (a + (k : Int)).toNat = a.toNat + k from by omega]
        go_wp2_with fail
        refine (hstep.out k _ hlt hik).mono ?_
        rintro e w' ⟨rfl, hik'⟩
        go_wp2
        go_roundw
        case rel => exact ⟨k + 1, by omega, by go_num, hik'⟩
        case measure => simp [intOf]; omega
      · have hck : c.toNat = k := by omega
        have HC : Hid (c.toNat = k) := hck
        clear hck
        go_wp2
        go_end0
        exact ⟨rfl, by rw [HC.out]; exact hik⟩


theorem Bytes.back {w : World} {g L c : Nat} {l : List UInt8} (h : Bytes w g l) (hl : L = l.length) : (convert 46 9 (.slice (some ⟨g, 0, none⟩) L c)).run Try.prog w = .ok (.string ⟨l.toArray⟩) w := by
  rw [hl]
  refine run_convert_bytes_back w 46 9 5 ⟨g, 0, none⟩ c l Try.underlying46 Try.underlying5 Try.underlying9 ?_
  intro j hj
  rw [Addr.add_lit, Nat.zero_add, h.cell j hj, List.getD_eq_getElem?_getD, List.getElem?_eq_getElem hj]
  rfl
theorem Bytes.fresh (w : World) (s : ByteArray) (cp : Nat) : Bytes (w.alloc (Obj.cells (bytesRow s cp) 5 ((bytesRow s cp).size, (bytesRow s cp).size + 1))).drew w.heap.size s.data.toList := by
  constructor
  · intro i hi
    have hi' : i < s.data.size := by simpa using hi
    show (w.alloc _).cell? _ = _
    rw [World.cell?_alloc_mark, bytesRow_at s cp i hi', List.getD_eq_getElem?_getD, List.getElem?_eq_getElem hi]
    rfl
  · intro i hi
    have hi' : i < s.data.size := by simpa using hi
    show (w.alloc _).frozen? _ = _
    rw [World.frozen?_alloc_mark]
    have : s.data.size ≤ (bytesRow s cp).size := by simp [bytesRow]
    simp
    omega

set_option maxHeartbeats 400000 in
theorem set_yes (s : ByteArray) (a : Int) (on : Bool) (w : World) (hs : s.size ≤ 140737488351232) (h0 : 0 ≤ a) (h1 : a < 8 * (s.size : Int)) :
    Calls Try.prog 11 #[.string s, .int .i64 a, .bool on] w fun r w' => r = .returned (.tuple #[.string ⟨(Plain.setB s.data.toList a.toNat on).toArray⟩, .int .i64 0]) ∧ Below w.heap.size w w' := by
  have hh : hasB s.size a 1 = true := hasB_yes h0 (by decide) (by omega)
  have hcv := fun w s => run_bytes_of_string (P := Try.prog) w 9 46 5 s Try.underlying9 Try.underlying46 Try.underlying5
  have hsl : s.size = s.data.toList.length := by simp
  have HSL : Hid (s.size = s.data.toList.length) := hsl
  clear hsl
  go_enter Try.func11, Try.ntmps11
  go_wp2_with fail
  refine (has _ _ _ _ hs (by omega) (by decide)).mono ?_
  rintro e w' ⟨rfl, rfl⟩
  rw [hh]
  go_wp2_with fail
  have hby := Bytes.fresh w' s (grownCap w' s.size 0 5)
  have hbl : Below w'.heap.size w' (w'.alloc (Obj.cells (bytesRow s (grownCap w' s.size 0 5)) 5 ((bytesRow s (grownCap w' s.size 0 5)).size, (bytesRow s (grownCap w' s.size 0 5)).size + 1))).drew := ((Below.refl _ _).alloc (Nat.le_refl _) _).drew
  refine (turn _ _ _ s.data.toList HSL.out _ _ _ h0 (by rw [← HSL.out]; exact h1) (by rw [← HSL.out]; exact hs) hby).mono ?_
  rintro e w2 ⟨rfl, hw2⟩
  have hby2 := hby.set (a.toNat / 8) (by rw [← HSL.out]; omega) (UInt8.ofNat (Plain.turn (s.data.toList.getD (a.toNat / 8) 0).toNat (a.toNat % 8) on))
  rw [← hw2] at hby2
  have hbl2 := hbl.setCell (p := ⟨w'.heap.size, a.toNat / 8, none⟩) (Nat.le_refl _) (.int .u8 (((UInt8.ofNat (Plain.turn (s.data.toList.getD (a.toNat / 8) 0).toNat (a.toNat % 8) on)).toNat : Nat) : Int))
  rw [← hw2] at hbl2
  clear hw2 hby hbl hcv
  generalize grownCap w' s.size 0 5 = cp at *
  have hby3 : Bytes w2 w'.heap.size (Plain.setB s.data.toList a.toNat on) := hby2
  clear hby2
  have hbk := hby3.back (L := s.size) (c := cp) (by rw [Plain.length_setB]; exact HSL.out)
  go_wp2
  go_ret2
  exact ⟨rfl, hbl2⟩
set_option maxHeartbeats 400000 in
theorem set_no (s : ByteArray) (a : Int) (on : Bool) (w : World) (hs : s.size ≤ 140737488351232) (ha : a ≤ 9223372036854775807) (h : a < 0 ∨ 8 * (s.size : Int) ≤ a) :
    Calls Try.prog 11 #[.string s, .int .i64 a, .bool on] w fun r w' => r = .returned (.tuple #[.string ⟨#[]⟩, .int .i64 200]) ∧ w' = w := by
  have hh : hasB s.size a 1 = false := hasB_no (by omega)
  go_enter Try.func11, Try.ntmps11
  go_wp2_with fail
  refine (has _ _ _ _ hs ha (by decide)).mono ?_
  rintro e w' ⟨rfl, rfl⟩
  rw [hh]
  go_wp2
  go_ret2
  exact ⟨rfl, rfl⟩

set_option maxHeartbeats 400000 in
theorem count1 (b : Nat) (x : Int) (on : Bool) (z : Int) (w : World) (hz0 : 0 ≤ z) (hz : z < 9223372036854775807) (hc : w.cell? ⟨b, 0, none⟩ = some (.int .i64 z)) (hf : w.frozen? ⟨b, 0, none⟩ = false) :
    Calls Try.prog 24 #[.int .u64 x, .bool on, .pointer (some ⟨b, 0, none⟩)] w fun r w' => r = .returned (.tuple #[]) ∧
      w' = if on then w.setCell ⟨b, 0, none⟩ (.int .i64 (z + 1)) else w := by
  cases on
  · go_enter Try.func24, Try.ntmps24
    go_wp2
    go_end0
    exact ⟨rfl, rfl⟩
  · go_enter Try.func24, Try.ntmps24
    go_wp2
    go_end0
    exact ⟨rfl, rfl⟩

set_option maxHeartbeats 400000 in
theorem count_yes (s : ByteArray) (a c : Int) (w : World) (hs : s.size ≤ 140737488351232) (h0 : 0 ≤ a) (h1 : 0 ≤ c) (h2 : a + c ≤ 8 * (s.size : Int)) :
    Calls Try.prog 13 #[.string s, .int .i64 a, .int .i64 c] w fun r w' => r = .returned (.tuple #[.int .i64 ((Plain.cnt s.data.toList a.toNat c.toNat : Nat) : Int), .int .i64 0]) ∧ Below w.heap.size w w' := by
  have hh : hasB s.size a c = true := hasB_yes h0 h1 h2
  go_enter Try.func13, Try.ntmps13
  go_wp2_with fail
  refine (has _ _ _ _ hs (by omega) (by omega)).mono ?_
  rintro e w' ⟨rfl, rfl⟩
  rw [hh]
  go_wp2_with fail
  refine (each 24 (.inl rfl) w'.heap.size (fun k v => v.cell? ⟨w'.heap.size, 0, none⟩ = some (.int .i64 ((Plain.cnt s.data.toList a.toNat k : Nat) : Int)) ∧ v.frozen? ⟨w'.heap.size, 0, none⟩ = false ∧ Below w'.heap.size w' v) s a c _ hs h0 h1 h2 ?_ ?_).mono ?_
  · refine ⟨by simp [Plain.cnt], by simp, (Below.refl _ _).alloc (Nat.le_refl _) _⟩
  · intro k v hk ⟨hc, hf, hb⟩
    have hle := Plain.cnt_le s.data.toList a.toNat k
    refine (count1 _ _ _ _ _ (by omega) (by omega) hc hf).mono ?_
    rintro e v' ⟨rfl, hv⟩
    refine ⟨rfl, ?_⟩
    rw [Plain.cnt]
    cases hbit : Plain.bit s.data.toList (a.toNat + k)
    · rw [hbit] at hv
      simp only [Bool.false_eq_true, if_false] at hv
      subst hv
      exact ⟨by simpa using hc, hf, hb⟩
    · rw [hbit] at hv
      simp only [if_true] at hv
      subst hv
      refine ⟨?_, ?_, hb.setCell (Nat.le_refl _) _⟩
      · rw [World.cell?_setCell_same _ _ _ hc]; simp
      · rw [World.frozen?_setCell]; exact hf
  · rintro e v ⟨rfl, hc, hf, hb⟩
    go_wp2
    go_ret2
    exact ⟨rfl, hb⟩
set_option maxHeartbeats 400000 in
theorem count_no (s : ByteArray) (a c : Int) (w : World) (hs : s.size ≤ 140737488351232) (ha : a ≤ 9223372036854775807) (hc : c ≤ 9223372036854775807) (h : ¬ (0 ≤ a ∧ 0 ≤ c ∧ a + c ≤ 8 * (s.size : Int))) :
    Calls Try.prog 13 #[.string s, .int .i64 a, .int .i64 c] w fun r w' => r = .returned (.tuple #[.int .i64 0, .int .i64 200]) ∧ w' = w := by
  have hh : hasB s.size a c = false := hasB_no h
  clear h
  go_enter Try.func13, Try.ntmps13
  go_wp2_with fail
  refine (has _ _ _ _ hs ha hc).mono ?_
  rintro e w' ⟨rfl, rfl⟩
  rw [hh]
  go_wp2
  go_ret2
  exact ⟨rfl, rfl⟩
end Go.Proofs.Ytondhjfpfloejaa.Bit
