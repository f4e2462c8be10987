/-
  Several texts in one: What the program builds, value by value: a value's parts, what stands for nothing: plain facts. · A bit of a text, set by the program: contracts (carried). · A number in bytes, by the program: contracts (carried). · Lists that are told of lists: rows that are filled, one by one: facts. · Lists that are told of lists: what each function value tells: contracts.
-/
import Derived.Test.YtcpfhfdgfcilaaaGreatDoorB19
import Derived.Test.YtcpfhfdgfcilaaaGreatDoorB04
import Derived.Test.YtcpfhfdgfcilaaaGreatDoorB05
import Derived.Test.YtcpfhfdgfcilaaaGreatDoorB01
import Derived.Test.YtcpfhfdgfcilaaaGreatDoorB12
import Derived.Laws.MakeOwn
namespace Go.Proofs.YtcpfhfdgfcilaaaGreatDoor.Arr
open Tree Val Sums

/-- What is laid down where a value is nothing. -/
def blankF (ns : List Nd) (n : Nat) : List UInt8 :=
  if (nd ns n).kind = 0 then intM 0
  else if (nd ns n).kind = 1 then boolM false
  else if (nd ns n).kind = 2 then bytesM []
  else if (nd ns n).kind = 3 then listM []
  else structM ((List.range (kids ns n).length).map fun i => zeroF ns 8 (kAt ns n i))
/-- A value's parts; of nothing those of what is laid down in its stead. -/
def partsB (ns : List Nd) (n : Nat) (v : List UInt8) : List (List UInt8) := if v = nullM then (tellV (blankF ns n)).2 else (tellV v).2
theorem zero_fuel {ns : List Nd} (hm : May ns) : ∀ (f g n : Nat), n < ns.length → ns.length - n ≤ f → ns.length - n ≤ g → zeroF ns f n = zeroF ns g n := by
  intro f
  induction f with
  | zero => intro g n hn hf; omega
  | succ f ih =>
    intro g n hn hf hg
    obtain ⟨g, rfl⟩ : ∃ y, g = y + 1 := ⟨g - 1, by omega⟩
    have e : ((List.range (kids ns n).length).map fun i => zeroF ns f (kAt ns n i)) = ((List.range (kids ns n).length).map fun i => zeroF ns g (kAt ns n i)) := by
      refine List.map_congr_left fun i hi => ?_
      have hk := kid_of hm (List.mem_range.1 hi)
      exact ih g _ hk.2.1 (by have := hk.1; omega) (by have := hk.1; omega)
    rw [zeroF, zeroF, e]
/-- A kid's zero: nothing, or what stands for it. -/
theorem zero_of {ns : List Nd} (hm : May ns) {n : Nat} (hn : n < ns.length) : zeroF ns 8 n = if (nd ns n).null then nullM else blankF ns n := by
  have hmost := hm.most
  have e : ((List.range (kids ns n).length).map fun i => zeroF ns 7 (kAt ns n i)) = ((List.range (kids ns n).length).map fun i => zeroF ns 8 (kAt ns n i)) := by
    refine List.map_congr_left fun i hi => ?_
    have hk := kid_of hm (List.mem_range.1 hi)
    exact zero_fuel hm _ _ _ hk.2.1 (by have := hk.1; omega) (by have := hk.1; omega)
  rw [zeroF, e]
  unfold blankF
  split <;> rfl
theorem blank_struct {ns : List Nd} (hm : May ns) {n : Nat} (hn : n < ns.length) (hk : (nd ns n).kind = 4) : partsM (blankF ns n) = some (4, (List.range (kids ns n).length).map fun i => zeroF ns 8 (kAt ns n i)) := by
  have hmost := hm.most
  have hhang := hang_kids hm 3 hn
  have hkid := fun i (hi : i < (kids ns n).length) => zero_ok hm 8 (kAt ns n i) (kid_of hm hi).2.1 (by have := (kid_of hm hi).1; omega)
  have hle := hang_le hm 3 hn
  have hlen : (structM ((List.range (kids ns n).length).map fun i => zeroF ns 8 (kAt ns n i))).length ≤ hang 3 ns n := by
    rw [length_structM, length_flat, hhang, sum_kAt]
    have := sumTo_le (g := fun i => (zeroF ns 8 (kAt ns n i)).length) (h := fun i => hang 3 ns (kAt ns n i)) (kids ns n).length (fun i hi => (hkid i hi).2.1)
    omega
  unfold blankF
  rw [if_neg (by omega), if_neg (by omega), if_neg (by omega), if_neg (by omega)]
  refine parts_struct _ (fun v hv => ?_) (by omega)
  obtain ⟨i, hi, rfl⟩ := List.mem_map.1 hv
  rw [List.mem_range] at hi
  have := (hkid i hi).1
  rw [(kid_of hm hi).2.2] at this
  have h1k : 0 < (kids ns n).length := by omega
  have hd := hm.depth_le (kid_of hm h1k).2.1
  have hd2 := (kid_of hm h1k).2.2
  exact val_up _ 3 (by omega) _ _ this
/-- What stands for nothing is told apart. -/
theorem blank_parts {ns : List Nd} (hm : May ns) {n : Nat} (hn : n < ns.length) : ∃ ps, partsM (blankF ns n) = some ((nd ns n).kind, ps) ∧ partsB ns n nullM = ps := by
  have h : ∃ ps, partsM (blankF ns n) = some ((nd ns n).kind, ps) := by
    have h0 : in64 0 := by unfold in64; omega
    rcases kinds hm hn with e | e | e | e | e
    · exact ⟨_, by unfold blankF; rw [if_pos e, e]; exact parts_int 0 h0⟩
    · exact ⟨_, by unfold blankF; rw [if_neg (by omega), if_pos e, e]; exact parts_bool false⟩
    · exact ⟨_, by unfold blankF; rw [if_neg (by omega), if_neg (by omega), if_pos e, e]; exact parts_bytes [] (by decide)⟩
    · exact ⟨_, by unfold blankF; rw [if_neg (by omega), if_neg (by omega), if_neg (by omega), if_pos e, e]; exact parts_list [] (fun v hv => by cases hv) (by decide)⟩
    · exact ⟨_, by rw [e]; exact blank_struct hm hn e⟩
  obtain ⟨ps, h⟩ := h
  refine ⟨ps, h, ?_⟩
  unfold partsB tellV
  rw [if_pos rfl, h]
  rfl
theorem blank_tell {ns : List Nd} (hm : May ns) {n : Nat} (hn : n < ns.length) : partsS (mk (blankF ns n)) = some ((nd ns n).kind, (partsB ns n nullM).map mk) := by
  obtain ⟨ps, h1, h2⟩ := blank_parts hm hn
  rw [partsS, mk, bl_mk, h1, h2]
  rfl
theorem pb_there {ns : List Nd} {n : Nat} {v : List UInt8} (h : v ≠ nullM) : partsB ns n v = (tellV v).2 := if_neg h
theorem pb_int {ns : List Nd} (hm : May ns) {g n : Nat} (hn : n < ns.length) (hk : (nd ns n).kind = 0) {v : List UInt8} (h : fitsF ns (g + 1) n (mk v) = true) : ∃ x, in64 x ∧ partsB ns n v = [intD x] ∧ intV v = x := by
  have hV := fitV hm hn h
  have h0 : in64 0 := by unfold in64; omega
  rcases hV.kind with ⟨h1, h2, rfl⟩ | ⟨h1, h2⟩
  · refine ⟨0, h0, ?_, ?_⟩
    · unfold partsB tellV blankF
      rw [if_pos rfl, if_pos hk, parts_int 0 h0]
      rfl
    · unfold intV
      rw [h1, if_pos (by decide)]
  · obtain ⟨x, a, b, c⟩ := hV.int hk (by rw [h1, hk])
    exact ⟨x, a, by rw [pb_there h2, b], c⟩
theorem pb_bool {ns : List Nd} (hm : May ns) {g n : Nat} (hn : n < ns.length) (hk : (nd ns n).kind = 1) {v : List UInt8} (h : fitsF ns (g + 1) n (mk v) = true) : ∃ b, partsB ns n v = [boolM b] ∧ decide (v = [116]) = b := by
  have hV := fitV hm hn h
  rcases hV.kind with ⟨h1, h2, rfl⟩ | ⟨h1, h2⟩
  · refine ⟨false, ?_, by decide⟩
    unfold partsB tellV blankF
    rw [if_pos rfl, if_neg (by omega), if_pos hk, parts_bool false]
    rfl
  · rcases hV.bool hk with rfl | ⟨b, rfl⟩
    · exact absurd rfl h2
    · refine ⟨b, ?_, by cases b <;> decide⟩
      rw [pb_there h2]
      unfold tellV
      rw [parts_bool b]
      rfl
theorem pb_bytes {ns : List Nd} (hm : May ns) {g n : Nat} (hn : n < ns.length) (hk : (nd ns n).kind = 2) {v : List UInt8} (h : fitsF ns (g + 1) n (mk v) = true) : ∃ s, partsB ns n v = [s] ∧ (tellV v).2.flatten = s ∧ s.length ≤ 16 ∧ sizeV ns n v = s.length := by
  rcases fits_inv h with ⟨rfl, _⟩ | ⟨ps, hF⟩
  · refine ⟨[], ?_, ?_, Nat.zero_le _, ?_⟩
    · unfold partsB tellV blankF
      rw [if_pos rfl, if_neg (by omega), if_neg (by omega), if_pos hk, parts_bytes [] (by decide)]
      rfl
    · rw [tell_null]
      rfl
    · unfold sizeV
      rw [if_pos hk, tell_null]
      rfl
  · have hM := hF.made
    rw [hk] at hM
    obtain ⟨s, hps, _⟩ := made_bytes hM
    have e := hF.tellV
    have hl := hF.bytes hk
    rw [hps, List.getD_cons_zero] at hl
    refine ⟨s, by rw [pb_there (hF.ne_null hm hn), e, hps], by rw [e, hps]; simp, hl, ?_⟩
    unfold sizeV
    rw [if_pos hk, e, hps]
    simp
theorem pb_list {ns : List Nd} (hm : May ns) {g n : Nat} (hn : n < ns.length) (hk : (nd ns n).kind = 3) {v : List UInt8} (h : fitsF ns (g + 1) n (mk v) = true) : partsB ns n v = (tellV v).2 ∧ sizeV ns n v = (tellV v).2.length ∧ (tellV v).2.length ≤ 64 := by
  have hV := fitV hm hn h
  refine ⟨?_, by unfold sizeV; rw [if_neg (by omega)], hV.list hk⟩
  rcases hV.kind with ⟨h1, h2, rfl⟩ | ⟨h1, h2⟩
  · rw [h2]
    unfold partsB tellV blankF
    rw [if_pos rfl, if_neg (by omega), if_neg (by omega), if_neg (by omega), if_pos hk, parts_list [] (fun v hv => by cases hv) (by decide)]
    rfl
  · exact pb_there h2
theorem pb_struct {ns : List Nd} (hm : May ns) {g n : Nat} (hn : n < ns.length) (hk : (nd ns n).kind = 4) {v : List UInt8} (h : fitsF ns (g + 1) n (mk v) = true) : (partsB ns n v).length = (kids ns n).length ∧ ∀ j, j < (kids ns n).length → (partsB ns n v).getD j [] = kidV ns n v j := by
  have hV := fitV hm hn h
  rcases hV.kind with ⟨h1, h2, rfl⟩ | ⟨h1, h2⟩
  · have e : partsB ns n nullM = (List.range (kids ns n).length).map fun i => zeroF ns 8 (kAt ns n i) := by
      unfold partsB tellV
      rw [if_pos rfl, blank_struct hm hn hk]
      rfl
    refine ⟨by rw [e]; simp, fun j hj => ?_⟩
    unfold kidV
    rw [e, h1, if_pos (by decide), List.getD_eq_getElem?_getD, List.getElem?_map, List.getElem?_range hj]
    rfl
  · rw [pb_there h2]
    refine ⟨hV.struct hk (by rw [h1, hk]; decide), fun j hj => ?_⟩
    unfold kidV
    rw [h1, hk, if_neg (by decide)]
/-- How many a row's parts are: of any value that fits. -/
theorem pb_most {ns : List Nd} (hm : May ns) {g n : Nat} (hn : n < ns.length) {v : List UInt8} (h : fitsF ns (g + 1) n (mk v) = true) : (partsB ns n v).length ≤ 64 := by
  rcases kinds hm hn with e | e | e | e | e
  · obtain ⟨x, _, h1, _⟩ := pb_int hm hn e h
    rw [h1]; simp
  · obtain ⟨x, h1, _⟩ := pb_bool hm hn e h
    rw [h1]; simp
  · obtain ⟨x, h1, _⟩ := pb_bytes hm hn e h
    rw [h1]; simp
  · obtain ⟨h1, _, h2⟩ := pb_list hm hn e h
    rw [h1]; exact h2
  · have := (pb_struct hm hn e h).1
    have := length_kidsTo ns n ns.length
    have := hm.most
    unfold kids at *
    omega
/-- The values of a kid, by the parts. -/
theorem kid3_parts {ns : List Nd} (hm : May ns) {g n : Nat} (hn : n < ns.length) (hk : (nd ns n).kind = 3) {vs : List (List UInt8)} (h : ∀ v ∈ vs, fitsF ns (g + 1) n (mk v) = true) (j : Nat) : kidRows ns n vs j = (vs.map (partsB ns n)).flatten := by
  unfold kidRows
  rw [if_pos hk]
  congr 1
  exact List.map_congr_left fun v hv => (pb_list hm hn hk (h v hv)).1.symm
theorem kid4_parts {ns : List Nd} (hm : May ns) {g n : Nat} (hn : n < ns.length) (hk : (nd ns n).kind = 4) {vs : List (List UInt8)} (h : ∀ v ∈ vs, fitsF ns (g + 1) n (mk v) = true) {j : Nat} (hj : j < (kids ns n).length) : kidRows ns n vs j = vs.map fun v => (partsB ns n v).getD j [] := by
  unfold kidRows
  rw [if_neg (by omega)]
  exact List.map_congr_left fun v hv => ((pb_struct hm hn hk (h v hv)).2 j hj).symm
theorem data2_parts {ns : List Nd} (hm : May ns) {g n : Nat} (hn : n < ns.length) (hk : (nd ns n).kind = 2) {vs : List (List UInt8)} (h : ∀ v ∈ vs, fitsF ns (g + 1) n (mk v) = true) : dataOf ns n vs = (vs.map (partsB ns n)).flatten.flatten := by
  unfold dataOf
  rw [if_neg (by omega), if_neg (by omega), if_pos hk]
  induction vs with
  | nil => rfl
  | cons v vs ih =>
    obtain ⟨s, h1, h2, _⟩ := pb_bytes hm hn hk (h v List.mem_cons_self)
    rw [List.map_cons, List.map_cons, List.flatten_cons, List.flatten_cons, List.flatten_append, ih (fun u hu => h u (List.mem_cons_of_mem _ hu)), h1, h2]
    simp
/-- So few rows fill no buffer. -/
theorem few_fill {ns : List Nd} (hm : May ns) {g n : Nat} (hn : n < ns.length) {vs : List (List UInt8)} (h : ∀ v ∈ vs, fitsF ns (g + 1) n (mk v) = true) (hl : vs.length ≤ 64) : (dataOf ns n vs).length ≤ 4096 ∧ (endsOf ns n vs).length ≤ 4096 := by
  constructor
  · rcases kinds hm hn with e | e | e | e | e
    · rw [length_data0 e]; omega
    · rw [data1_all e, length_bitsOf, List.length_map]; omega
    · have := length_data2 e vs (fun v hv => fitV hm hn (h v hv)) vs.length (Nat.le_refl _)
      rw [List.take_length] at this
      omega
    · rw [dataOf_none (by omega) (by omega) (by omega)]; exact Nat.zero_le _
    · rw [dataOf_none (by omega) (by omega) (by omega)]; exact Nat.zero_le _
  · by_cases e : (nd ns n).kind = 2 ∨ (nd ns n).kind = 3
    · rw [length_endsOf e]; omega
    · rw [endsOf_none (fun c => e (.inl c)) (fun c => e (.inr c))]; exact Nat.zero_le _
theorem build_kids {ns : List Nd} (hm : May ns) {f g n : Nat} (hn : n < ns.length) {vs : List (List UInt8)} (h : ∀ v ∈ vs, fitsF ns (g + 1) n (mk v) = true) (hl : vs.length ≤ 64) :
    (buildF ns (f + 1) n vs).isSome = (List.range (kids ns n).length).all fun j => (buildF ns f (kAt ns n j) (kidRows ns n vs j)).isSome := by
  obtain ⟨h1, h2⟩ := few_fill hm hn h hl
  rw [buildF]
  by_cases c : ((List.range (kids ns n).length).all fun j => (buildF ns f (kAt ns n j) (kidRows ns n vs j)).isSome) = true
  · rw [if_pos ⟨hl, c, h1, h2⟩, c]
    rfl
  · rw [if_neg (fun x => c x.2.1)]
    simp only [Bool.not_eq_true] at c
    rw [c]
    rfl
theorem build_most {ns : List Nd} {f n : Nat} {vs : List (List UInt8)} (hl : 64 < vs.length) : (buildF ns f n vs).isSome = false := by
  cases f with
  | zero => rfl
  | succ f =>
    rw [buildF, if_neg (fun x => by have := x.1; omega)]
    rfl
end Go.Proofs.YtcpfhfdgfcilaaaGreatDoor.Arr
namespace Go.Proofs.YtcpfhfdgfcilaaaGreatDoor.Bit
open Go.ChangeShapes Go.WideShapes Go.ChangeAt Go.RowKit

set_option maxHeartbeats 400000 in
theorem turnP (g L c : Nat) (l : List UInt8) (hl : L = l.length) (x : Int) (on : Bool) (w : World) (h0 : 0 ≤ x) (h1 : x < 8 * (l.length : Int)) (hL : l.length ≤ 140737488351232) (hb : Bytes w g l) :
    Calls Tryz.prog 203 #[.slice (some ⟨g, 0, none⟩) L c, .int .u64 x, .bool on] w fun r w' => r = .returned (.tuple #[]) ∧
      w' = w.setCell ⟨g, x.toNat / 8, none⟩ (.int .u8 (((UInt8.ofNat (BitP.turn (l.getD (x.toNat / 8) 0).toNat (x.toNat % 8) on)).toNat : Nat) : Int)) := by
  obtain ⟨n, rfl⟩ := Int.eq_ofNat_of_zero_le h0
  rw [Int.toNat_natCast, BitP.setB_byte, hl]
  clear hl L
  have hlt : n / 8 < l.length := by omega
  have hc := hb.cell (n / 8) hlt
  have hf := hb.free (n / 8) hlt
  have hx : (l.getD (n / 8) 0).toNat < 256 := BitP.byte_lt _
  have hm : bits BinOp.and IntKind.u64 (↑n) 7 = ((n % 8 : Nat) : Int) := BitP.and7 n
  have hr : n % 8 < 8 := Nat.mod_lt _ (by decide)
  generalize n % 8 = r at *
  generalize (l.getD (n / 8) 0).toNat = x at *
  clear hb
  cases on
  · have ht : bits BinOp.andNot IntKind.u8 (↑x) (2 ^ r % 256) = _ := BitP.andNot_byte x r hx hr
    go_enter Tryz.func203, Tryz.ntmps203
    go_wp2
    go_end0
    exact ⟨rfl, rfl⟩
  · have ht : bits BinOp.or IntKind.u8 (↑x) (2 ^ r % 256) = _ := BitP.or_byte x r hx hr
    go_enter Tryz.func203, Tryz.ntmps203
    go_wp2
    go_end0
    exact ⟨rfl, rfl⟩
set_option maxHeartbeats 400000 in
theorem set_yes (s : ByteArray) (a : Int) (on : Bool) (w : World) (hs : s.size ≤ 140737488351232) (h0 : 0 ≤ a) (h1 : a < 8 * (s.size : Int)) :
    Calls Tryz.prog 162 #[.string s, .int .i64 a, .bool on] w fun r w' => r = .returned (.tuple #[.string ⟨(BitP.setB s.data.toList a.toNat on).toArray⟩, .int .i64 0]) ∧ Below w.heap.size w w' := by
  have hh : hasB s.size a 1 = true := hasB_yes h0 (by decide) (by omega)
  have hcv := fun w s => run_bytes_of_string (P := Tryz.prog) w 9 42 5 s Tryz.underlying9 Tryz.underlying42 Tryz.underlying5
  have hsl : s.size = s.data.toList.length := by simp
  have HSL : Hid (s.size = s.data.toList.length) := hsl
  clear hsl
  go_enter Tryz.func162, Tryz.ntmps162
  go_wp2_with fail
  refine (has _ _ _ _ hs (by omega) (by decide)).mono ?_
  rintro e w' ⟨rfl, rfl⟩
  rw [hh]
  go_wp2_with fail
  have hby := Bytes.fresh w' s (grownCap w' s.size 0 5)
  have hbl : Below w'.heap.size w' (w'.alloc (Obj.cells (bytesRow s (grownCap w' s.size 0 5)) 5 ((bytesRow s (grownCap w' s.size 0 5)).size, (bytesRow s (grownCap w' s.size 0 5)).size + 1))).drew := ((Below.refl _ _).alloc (Nat.le_refl _) _).drew
  refine (turnP _ _ _ s.data.toList HSL.out _ _ _ h0 (by rw [← HSL.out]; exact h1) (by rw [← HSL.out]; exact hs) hby).mono ?_
  rintro e w2 ⟨rfl, hw2⟩
  have hby2 := hby.set (a.toNat / 8) (by rw [← HSL.out]; omega) (UInt8.ofNat (BitP.turn (s.data.toList.getD (a.toNat / 8) 0).toNat (a.toNat % 8) on))
  rw [← hw2] at hby2
  have hbl2 := hbl.setCell (p := ⟨w'.heap.size, a.toNat / 8, none⟩) (Nat.le_refl _) (.int .u8 (((UInt8.ofNat (BitP.turn (s.data.toList.getD (a.toNat / 8) 0).toNat (a.toNat % 8) on)).toNat : Nat) : Int))
  rw [← hw2] at hbl2
  clear hw2 hby hbl hcv
  generalize grownCap w' s.size 0 5 = cp at *
  have hby3 : Bytes w2 w'.heap.size (BitP.setB s.data.toList a.toNat on) := hby2
  clear hby2
  have hbk := hby3.back (L := s.size) (c := cp) (by rw [BitP.length_setB]; exact HSL.out)
  go_wp2
  go_ret2
  exact ⟨rfl, hbl2⟩
end Go.Proofs.YtcpfhfdgfcilaaaGreatDoor.Bit
namespace Go.Proofs.YtcpfhfdgfcilaaaGreatDoor.Fix
open Go.ChangeShapes Go.WideShapes Go.ChangeAt Go.RowKit

theorem isShort (x : Int) (w : World) :
    Calls Tryz.prog 223 #[.int .i64 x] w fun r w' => r = .returned (.bool (shortB x)) ∧ w' = w := by
  by_cases h : 0 ≤ x
  · by_cases h2 : x ≤ 2147483647
    · rw [show shortB x = true from decide_eq_true ⟨h, h2⟩]
      go_enter Tryz.func223, Tryz.ntmps223
      go_wp2
      go_ret
      exact ⟨rfl, rfl⟩
    · rw [show shortB x = false from decide_eq_false (by omega)]
      go_enter Tryz.func223, Tryz.ntmps223
      go_wp2
      go_ret
      exact ⟨ret_bool (by simp), rfl⟩
  · rw [show shortB x = false from decide_eq_false (by omega)]
    go_enter Tryz.func223, Tryz.ntmps223
    go_wp2
    go_ret
    exact ⟨rfl, rfl⟩
set_option maxHeartbeats 400000 in
theorem put4 (x : Int) (X : Nat) (hX : IntKind.u64.wrap x = (X : Int)) (w : World) (h0 : 0 ≤ x) (h3 : x ≤ 2147483647) :
    Calls Tryz.prog 197 #[.int .i64 x, .int .i64 4] w fun r w' => r = .returned (.tuple #[.string ⟨(Plain.low X 4).toArray⟩, .int .i64 0]) ∧ Below w.heap.size w w' := by
  have hX1 : X < 18446744073709551616 := by rw [IntKind.wrap_u64] at hX; omega
  have h1 : sizeB 4 = true := by decide
  have h2 : shortB x = true := decide_eq_true ⟨h0, h3⟩
  obtain ⟨w1, hmk, hb1, hbl1⟩ := make_bytes 4 (by decide) w
  rw [← Plain.lowTo_zero X] at hb1
  have hmk' : (Instr.makeSlice 42 (.int .i64 4) (.int .i64 4)).run Tryz.prog w = .ok (.slice (some ⟨w.heap.size, 0, none⟩) 4 4) w1 := hmk
  clear hmk
  go_enter Tryz.func197, Tryz.ntmps197
  go_wp2_with fail
  refine (isSize _ _).mono ?_
  rintro e w' ⟨rfl, rfl⟩
  rw [h1]
  go_wp2_with fail
  refine (isShort _ _).mono ?_
  rintro e w' ⟨rfl, rfl⟩
  rw [h2]
  go_wp2_with fail
  go_loopw [7, 27] (fun t i wr => ∃ k : Nat, k ≤ 4 ∧ i = .int .i64 k ∧ t = .int .u64 ((X / 256 ^ k : Nat) : Int) ∧ Bytes wr w'.heap.size (Plain.lowTo X 4 k) ∧ Below w'.heap.size w' wr) (fun _ i _ => 4 - (intOf i).toNat)
  case atStart => exact ⟨0, by omega, rfl, by simp, hb1, hbl1⟩
  case round =>
    obtain ⟨k, hk, rfl, rfl, hb, hbl⟩ := hrel
    have HB : Hid (Bytes wr w'.heap.size (Plain.lowTo X 4 k)) := hb
    clear hb hb1 hbl1 hmk' hX
    by_cases hlt : k < 4
    · have hc := HB.out.cell k (by rw [Plain.length_lowTo]; exact hlt)
      have hf := HB.out.free k (by rw [Plain.length_lowTo]; exact hlt)
      have HB2 : Hid (Bytes (wr.setCell ⟨w'.heap.size, k, none⟩ (.int .u8 ((X / 256 ^ k : Nat) % 256 : Int))) w'.heap.size (Plain.lowTo X 4 (k + 1))) := by
        have := HB.out.set k (by rw [Plain.length_lowTo]; exact hlt) (UInt8.ofNat (X / 256 ^ k))
        rw [← Plain.lowTo_succ] at this
        have e : (((UInt8.ofNat (X / 256 ^ k)).toNat : Nat) : Int) = ((X / 256 ^ k : Nat) % 256 : Int) := by simp
        rw [e] at this
        exact this
      have HD : Hid (X / 256 ^ (k + 1) = X / 256 ^ k / 256) := by unfold Hid; rw [Nat.pow_succ, Nat.div_div_eq_div_mul]
      have hle : X / 256 ^ k < 18446744073709551616 := Nat.lt_of_le_of_lt (Nat.div_le_self _ _) hX1
      generalize X / 256 ^ k = z at *
      generalize ((Plain.lowTo X 4 k).getD k 0).toNat = y at *
      go_wp2
      go_roundw
      case rel => exact ⟨k + 1, by omega, by go_num, by rw [HD.out]; go_num, HB2.out, hbl.setCell (Nat.le_refl _) _⟩
      case measure => simp [intOf]; omega
    · have hk4 : k = 4 := by omega
      subst hk4
      have hbk := HB.out.back (L := 4) (c := 4) (Plain.length_lowTo _ _ _).symm
      go_wp2
      go_ret2
      exact ⟨ret2_str (Plain.lowTo_all _ _), hbl⟩
set_option maxHeartbeats 400000 in
theorem put8 (x : Int) (X : Nat) (hX : IntKind.u64.wrap x = (X : Int)) (w : World) :
    Calls Tryz.prog 197 #[.int .i64 x, .int .i64 8] w fun r w' => r = .returned (.tuple #[.string ⟨(Plain.low X 8).toArray⟩, .int .i64 0]) ∧ Below w.heap.size w w' := by
  have hX1 : X < 18446744073709551616 := by rw [IntKind.wrap_u64] at hX; omega
  have h1 : sizeB 8 = true := by decide
  obtain ⟨w1, hmk, hb1, hbl1⟩ := make_bytes 8 (by decide) w
  rw [← Plain.lowTo_zero X] at hb1
  have hmk' : (Instr.makeSlice 42 (.int .i64 8) (.int .i64 8)).run Tryz.prog w = .ok (.slice (some ⟨w.heap.size, 0, none⟩) 8 8) w1 := hmk
  clear hmk
  go_enter Tryz.func197, Tryz.ntmps197
  go_wp2_with fail
  refine (isSize _ _).mono ?_
  rintro e w' ⟨rfl, rfl⟩
  rw [h1]
  go_wp2_with fail
  go_loopw [7, 27] (fun t i wr => ∃ k : Nat, k ≤ 8 ∧ i = .int .i64 k ∧ t = .int .u64 ((X / 256 ^ k : Nat) : Int) ∧ Bytes wr w'.heap.size (Plain.lowTo X 8 k) ∧ Below w'.heap.size w' wr) (fun _ i _ => 8 - (intOf i).toNat)
  case atStart => exact ⟨0, by omega, rfl, by simp, hb1, hbl1⟩
  case round =>
    obtain ⟨k, hk, rfl, rfl, hb, hbl⟩ := hrel
    have HB : Hid (Bytes wr w'.heap.size (Plain.lowTo X 8 k)) := hb
    clear hb hb1 hbl1 hmk' hX
    by_cases hlt : k < 8
    · have hc := HB.out.cell k (by rw [Plain.length_lowTo]; exact hlt)
      have hf := HB.out.free k (by rw [Plain.length_lowTo]; exact hlt)
      have HB2 : Hid (Bytes (wr.setCell ⟨w'.heap.size, k, none⟩ (.int .u8 ((X / 256 ^ k : Nat) % 256 : Int))) w'.heap.size (Plain.lowTo X 8 (k + 1))) := by
        have := HB.out.set k (by rw [Plain.length_lowTo]; exact hlt) (UInt8.ofNat (X / 256 ^ k))
        rw [← Plain.lowTo_succ] at this
        have e : (((UInt8.ofNat (X / 256 ^ k)).toNat : Nat) : Int) = ((X / 256 ^ k : Nat) % 256 : Int) := by simp
        rw [e] at this
        exact this
      have HD : Hid (X / 256 ^ (k + 1) = X / 256 ^ k / 256) := by unfold Hid; rw [Nat.pow_succ, Nat.div_div_eq_div_mul]
      have hle : X / 256 ^ k < 18446744073709551616 := Nat.lt_of_le_of_lt (Nat.div_le_self _ _) hX1
      generalize X / 256 ^ k = z at *
      generalize ((Plain.lowTo X 8 k).getD k 0).toNat = y at *
      go_wp2
      go_roundw
      case rel => exact ⟨k + 1, by omega, by go_num, by rw [HD.out]; go_num, HB2.out, hbl.setCell (Nat.le_refl _) _⟩
      case measure => simp [intOf]; omega
    · have hk8 : k = 8 := by omega
      subst hk8
      have hbk := HB.out.back (L := 8) (c := 8) (Plain.length_lowTo _ _ _).symm
      go_wp2
      go_ret2
      exact ⟨ret2_str (Plain.lowTo_all _ _), hbl⟩
end Go.Proofs.YtcpfhfdgfcilaaaGreatDoor.Fix
set_option linter.unusedVariables false
set_option linter.unusedSimpArgs false
namespace Go.Proofs.YtcpfhfdgfcilaaaGreatDoor.Arr
open Go.ChangeShapes Go.WideShapes Go.ChangeAt Go.RowKit
open Tree

/-- A list of values lies so. -/
def IsL (w : World) (o : Option Addr) (xs : List Value) : Prop := xs.length ≤ maxLen ∧ (xs = [] ∨ ∃ x, o = some x ∧ ∀ i v, xs[i]? = some v → w.cell? (x.add i) = some v)
theorem IsL.later {w w' : World} {o : Option Addr} {xs : List Value} (h : IsL w o xs) (hb : Below w.heap.size w w') : IsL w' o xs :=
  ⟨h.1, h.2.imp id fun ⟨x, e, hl⟩ => ⟨x, e, fun i v hv => cell_later hb (hl i v hv)⟩⟩
theorem IsL.some {w : World} {o : Option Addr} {xs : List Value} (h : IsL w o xs) (h1 : 0 < xs.length) : ∃ x, o = some x ∧ ∀ i v, xs[i]? = some v → w.cell? (x.add i) = some v := by
  rcases h.2 with rfl | h
  · cases h1
  · exact h
theorem tx_isL {w : World} {o : Option Addr} {ss : List ByteArray} (h : Texts.IsTx w o ss) : IsL w o (Texts.cellsT ss) := by
  refine ⟨by simpa [Texts.cellsT] using h.1, h.2.imp (fun e => by rw [e]; rfl) fun ⟨x, e, hl⟩ => ⟨x, e, fun i v hv => ?_⟩⟩
  have hi : i < ss.length := by
    have := (List.getElem?_eq_some_iff.1 hv).1
    simpa [Texts.cellsT] using this
  rw [Texts.cellsT_at ss i hi] at hv
  injection hv with hv
  rw [← hv]
  exact hl i hi
theorem own_isL {w : World} {b c n : Nat} {T : TypeId} {o : Option Addr} {xs : List Value} (h : w.ownsRow b T 1 (.slice o n c) n xs) (hn : xs.length = n) : IsL w o xs := by
  rcases h.2 with ⟨h0, h1⟩ | ⟨g, cap, cur, h0, _, _, hle, hm, _⟩
  · exact ⟨by omega, .inl (List.eq_nil_of_length_eq_zero (by omega))⟩
  · refine ⟨by omega, .inr ⟨⟨g, 0, none⟩, by injection h0, fun i v hv => ?_⟩⟩
    injection h0 with h2 h3 h4
    subst h2 h4
    exact h.cells rfl _ _ hv
/-- What is held of a value at a place stays where only block g turns, and what is new. -/
def Stay (g : Nat) (Q : World → Nat → Value → Prop) : Prop := ∀ v v' k y, Q v k y → (∀ b, b ≠ g → b < v.heap.size → v'.heap[b]? = v.heap[b]?) → Q v' k y
/-- The values so far, in a block. -/
structure FillQ (Q : World → Nat → Value → Prop) (T : TypeId) (z : Value) (w : World) (g n k : Nat) : Prop where
  ex : ∃ ys : List Value, ys.length = n ∧ w.heap[g]? = some (.cells ys.toArray T (0, 0)) ∧ (∀ j, k ≤ j → j < n → ys[j]? = some z) ∧ ∀ j y, j < k → ys[j]? = some y → Q w j y
theorem FillQ.later {Q : World → Nat → Value → Prop} {T : TypeId} {z : Value} {w w' : World} {g n k : Nat} (h : FillQ Q T z w g n k) (hQ : Stay g Q) (hb : Below w.heap.size w w') : FillQ Q T z w' g n k := by
  obtain ⟨ys, e1, e2, e3, e4⟩ := h.ex
  exact ⟨ys, e1, (hb.block g (Array.getElem?_eq_some_iff.1 e2).1).trans e2, e3, fun j y hj hy => hQ w w' j y (e4 j y hj hy) fun b _ hb' => hb.block b hb'⟩
theorem FillQ.lt {Q : World → Nat → Value → Prop} {T : TypeId} {z : Value} {w : World} {g n k : Nat} (h : FillQ Q T z w g n k) : g < w.heap.size := by
  obtain ⟨ys, e1, e2, e3, e4⟩ := h.ex
  exact (Array.getElem?_eq_some_iff.1 e2).1
theorem FillQ.cell {Q : World → Nat → Value → Prop} {T : TypeId} {z : Value} {w : World} {g n k : Nat} (h : FillQ Q T z w g n k) (hk : k < n) : w.cell? ⟨g, k, none⟩ = some z := by
  obtain ⟨ys, e1, e2, e3, e4⟩ := h.ex
  simp only [World.cell?, e2]
  rw [List.getElem?_toArray, e3 k (Nat.le_refl _) hk]
  rfl
theorem FillQ.fz {Q : World → Nat → Value → Prop} {T : TypeId} {z : Value} {w : World} {g n k : Nat} (h : FillQ Q T z w g n k) (j : Nat) : w.frozen? ⟨g, j, none⟩ = false := by
  obtain ⟨ys, e1, e2, e3, e4⟩ := h.ex
  simp [World.frozen?, e2]
theorem FillQ.put {Q : World → Nat → Value → Prop} {T : TypeId} {z : Value} {w : World} {g n k : Nat} (h : FillQ Q T z w g n k) (hQ : Stay g Q) (hk : k < n) {y : Value} (hy : Q w k y) : FillQ Q T z (w.setCell ⟨g, k, none⟩ y) g n (k + 1) := by
  obtain ⟨ys, e1, e2, e3, e4⟩ := h.ex
  have hst : ∀ j u, Q w j u → Q (w.setCell ⟨g, k, none⟩ y) j u := fun j u hu => hQ _ _ _ _ hu fun b hb _ => Below.heap_setCell _ _ _ _ hb
  refine ⟨ys.set k y, by simpa using e1, ?_, fun j h1 h2 => ?_, fun j u h1 h2 => ?_⟩
  · simp [World.setCell, Array.getElem?_modify, e2]
  · rw [List.getElem?_set_ne (by omega)]
    exact e3 j (by omega) h2
  · by_cases c : j = k
    · subst c
      rw [List.getElem?_set_self (by omega)] at h2
      injection h2 with h2
      rw [← h2]
      exact hst _ _ hy
    · rw [List.getElem?_set_ne (fun x => c x.symm)] at h2
      exact hst _ _ (e4 j u (by omega) h2)
theorem FillQ.done {Q : World → Nat → Value → Prop} {T : TypeId} {z : Value} {w : World} {b g n : Nat} (h : FillQ Q T z w g n n) (hb : b ≤ g) (hn : n ≤ 4096) : ∃ ys : List Value, ys.length = n ∧ w.ownsRow b T 1 (.slice (some ⟨g, 0, none⟩) n n) n ys ∧ ∀ j y, ys[j]? = some y → Q w j y := by
  obtain ⟨ys, e1, e2, e3, e4⟩ := h.ex
  refine ⟨ys, e1, ⟨by omega, .inr ⟨g, n, _, rfl, hb, e2, Nat.le_refl _, by unfold maxLen; omega, by simp [e1], ?_⟩⟩, fun j y hy => e4 j y ?_ hy⟩
  · rw [Nat.mul_one]
    simp only [List.toList_toArray]
    rw [List.take_of_length_le (by omega)]
  · have := (List.getElem?_eq_some_iff.1 hy).1
    omega
/-- Values of which each is told. -/
def Pure (f : Nat → Value) : World → Nat → Value → Prop := fun _ k y => y = f k
theorem pure_stay (g : Nat) (f : Nat → Value) : Stay g (Pure f) := fun _ _ _ _ h _ => h
theorem pure_list {f : Nat → Value} {ys : List Value} {w : World} {n : Nat} (hn : ys.length = n) (h : ∀ j y, ys[j]? = some y → Pure f w j y) : ys = (List.range n).map f := by
  refine List.ext_getElem? fun i => ?_
  by_cases hi : i < n
  · have h2 : i < ys.length := by omega
    rw [List.getElem?_eq_getElem h2, h i _ (List.getElem?_eq_getElem h2), List.getElem?_map, List.getElem?_range hi]
    rfl
  · rw [List.getElem?_eq_none (by omega), List.getElem?_eq_none (by simp; omega)]
/-- Texts somewhere else than in block g. -/
def TxA (g : Nat) (w : World) (o : Option Addr) (ss : List ByteArray) : Prop := ss.length ≤ maxLen ∧ (ss = [] ∨ ∃ x, o = some x ∧ x.block ≠ g ∧ Texts.LiesT w x ss)
theorem TxA.tx {g : Nat} {w : World} {o : Option Addr} {ss : List ByteArray} (h : TxA g w o ss) : Texts.IsTx w o ss := ⟨h.1, h.2.imp id fun ⟨x, a, _, c⟩ => ⟨x, a, c⟩⟩
theorem TxA.stay {g : Nat} {v v' : World} {o : Option Addr} {ss : List ByteArray} (h : TxA g v o ss) (hb : ∀ b, b ≠ g → b < v.heap.size → v'.heap[b]? = v.heap[b]?) : TxA g v' o ss := by
  refine ⟨h.1, h.2.imp id fun ⟨x, a, b, c⟩ => ⟨x, a, b, fun i hi => ?_⟩⟩
  have hc := c i hi
  have hlt := World.block_lt_of_cell? _ _ hc
  have e : (x.add i).block = x.block := by unfold Addr.add; split <;> rfl
  exact (World.cell?_of_block (w := v) (hb _ (by rw [e]; exact b) hlt)).trans hc
theorem own_txA {w : World} {b c g : Nat} {T : TypeId} {o : Option Addr} {ss : List ByteArray} (h : w.ownsRow b T 1 (.slice o ss.length c) ss.length (Texts.cellsT ss)) (hg : g < b) : TxA g w o ss ∧ ss.length ≤ c := by
  rcases h.2 with ⟨h0, h1⟩ | ⟨g', cap, cur, h0, hb, _, hle, hm, _⟩
  · exact ⟨⟨by rw [h1]; exact Nat.zero_le _, .inl (List.eq_nil_of_length_eq_zero h1)⟩, by rw [h1]; exact Nat.zero_le _⟩
  · injection h0 with h2 h3 h4
    refine ⟨⟨by omega, .inr ⟨⟨g', 0, none⟩, h2, (by show g' ≠ g; omega), fun i hi => ?_⟩⟩, by omega⟩
    subst h2 h4
    exact h.cells rfl _ _ (Texts.cellsT_at ss i hi)
/-- A row of texts each. -/
def TxRow (g : Nat) (P : Nat → List ByteArray) : World → Nat → Value → Prop := fun w k y => ∃ o c, y = .slice o (P k).length c ∧ (P k).length ≤ c ∧ TxA g w o (P k)
theorem txRow_stay (g : Nat) (P : Nat → List ByteArray) : Stay g (TxRow g P) := fun _ _ _ _ h hb => by
  obtain ⟨o, c, e, h1, h2⟩ := h
  exact ⟨o, c, e, h1, h2.stay hb⟩
/-- Rows of texts, as they are read. -/
def IsRows (w : World) (o : Option Addr) (Ps : List (List ByteArray)) : Prop := ∃ xs : List Value, xs.length = Ps.length ∧ IsL w o xs ∧ ∀ k x, xs[k]? = some x → ∃ ok ck, x = .slice ok (Ps.getD k []).length ck ∧ (Ps.getD k []).length ≤ ck ∧ Texts.IsTx w ok (Ps.getD k [])
theorem IsRows.later {w w' : World} {o : Option Addr} {Ps : List (List ByteArray)} (h : IsRows w o Ps) (hb : Below w.heap.size w w') : IsRows w' o Ps := by
  obtain ⟨xs, h1, h2, h3⟩ := h
  refine ⟨xs, h1, h2.later hb, fun k x hk => ?_⟩
  obtain ⟨ok, ck, e, h4, h5⟩ := h3 k x hk
  exact ⟨ok, ck, e, h4, h5.later hb⟩
theorem txRow_rows {g b n c : Nat} {T : TypeId} {P : Nat → List ByteArray} {w : World} {o : Option Addr} {ys : List Value} (hn : ys.length = n) (h : w.ownsRow b T 1 (.slice o n c) n ys) (hq : ∀ j y, ys[j]? = some y → TxRow g P w j y) : IsRows w o ((List.range n).map P) := by
  refine ⟨ys, by simpa using hn, own_isL h hn, fun k x hk => ?_⟩
  have hlt : k < n := by
    have := (List.getElem?_eq_some_iff.1 hk).1
    omega
  have e : ((List.range n).map P).getD k [] = P k := by
    rw [List.getD_eq_getElem?_getD, List.getElem?_map, List.getElem?_range hlt]
    rfl
  obtain ⟨ok, ck, e1, h1, h2⟩ := hq k x hk
  rw [e]
  exact ⟨ok, ck, e1, h1, h2.tx⟩
end Go.Proofs.YtcpfhfdgfcilaaaGreatDoor.Arr
set_option linter.unusedVariables false
set_option linter.unusedSimpArgs false
namespace Go.Proofs.YtcpfhfdgfcilaaaGreatDoor.Arr
open Go.ChangeShapes Go.WideShapes Go.ChangeAt Go.RowKit
open Tree Val

theorem infoY29 : (Tryz.prog.info? 29).map (fun i => (i.zero, i.size, i.bytes)) = some (some (.slice none 0 0), 1, 24) := by kernel_rfl
theorem makeY29 (n : Nat) (h : n ≤ 4096) (Q : World → Nat → Value → Prop) (w : World) : ∃ w1, (Instr.makeSlice 110 (.int .i64 (n : Int)) (.int .i64 (n : Int))).run Tryz.prog w = .ok (.slice (some ⟨w.heap.size, 0, none⟩) n n) w1 ∧ FillQ Q 29 (.slice none 0 0) w1 w.heap.size n 0 ∧ Below w.heap.size w w1 ∧ w.heap.size < w1.heap.size := by
  obtain ⟨i, hi, hz0, hz1, hz2⟩ := info_parts infoY29
  have := run_make (P := Tryz.prog) w 110 29 i (.slice none 0 0) Tryz.underlying110 hi hz0 .i64 .i64 n n (by omega) (Int.le_refl _) (by rw [hz2]; omega) (by omega)
  rw [this, hz1, Nat.mul_one, Int.toNat_natCast]
  have e : madeCells (Value.cells (.slice none 0 0)) n = (List.replicate n (.slice none 0 0)).toArray := by
    refine Array.ext' ?_
    refine List.ext_getElem? fun j => ?_
    by_cases hj : j < n
    · simp [madeCells, hj, Value.cells, Nat.mod_one]
    · simp [madeCells, hj]
  rw [e]
  exact ⟨_, rfl, ⟨_, List.length_replicate, heap_alloc_new _ _, fun j _ hj => by simp [hj], fun j y hj => by omega⟩, (Below.refl _ _).alloc (Nat.le_refl _) _, by simp⟩
theorem infoY4 : (Tryz.prog.info? 4).map (fun i => (i.zero, i.size, i.bytes)) = some (some (.bool false), 1, 1) := by kernel_rfl
theorem makeY4 (n : Nat) (h : n ≤ 4096) (Q : World → Nat → Value → Prop) (w : World) : ∃ w1, (Instr.makeSlice 115 (.int .i64 (n : Int)) (.int .i64 (n : Int))).run Tryz.prog w = .ok (.slice (some ⟨w.heap.size, 0, none⟩) n n) w1 ∧ FillQ Q 4 (.bool false) w1 w.heap.size n 0 ∧ Below w.heap.size w w1 ∧ w.heap.size < w1.heap.size := by
  obtain ⟨i, hi, hz0, hz1, hz2⟩ := info_parts infoY4
  have := run_make (P := Tryz.prog) w 115 4 i (.bool false) Tryz.underlying115 hi hz0 .i64 .i64 n n (by omega) (Int.le_refl _) (by rw [hz2]; omega) (by omega)
  rw [this, hz1, Nat.mul_one, Int.toNat_natCast]
  have e : madeCells (Value.cells (.bool false)) n = (List.replicate n (.bool false)).toArray := by
    refine Array.ext' ?_
    refine List.ext_getElem? fun j => ?_
    by_cases hj : j < n
    · simp [madeCells, hj, Value.cells, Nat.mod_one]
    · simp [madeCells, hj]
  rw [e]
  exact ⟨_, rfl, ⟨_, List.length_replicate, heap_alloc_new _ _, fun j _ hj => by simp [hj], fun j y hj => by omega⟩, (Below.refl _ _).alloc (Nat.le_refl _) _, by simp⟩
theorem infoY3 : (Tryz.prog.info? 3).map (fun i => (i.zero, i.size, i.bytes)) = some (some (.int .i64 0), 1, 8) := by kernel_rfl
theorem makeY3 (n : Nat) (h : n ≤ 4096) (Q : World → Nat → Value → Prop) (w : World) : ∃ w1, (Instr.makeSlice 38 (.int .i64 (n : Int)) (.int .i64 (n : Int))).run Tryz.prog w = .ok (.slice (some ⟨w.heap.size, 0, none⟩) n n) w1 ∧ FillQ Q 3 (.int .i64 0) w1 w.heap.size n 0 ∧ Below w.heap.size w w1 ∧ w.heap.size < w1.heap.size := by
  obtain ⟨i, hi, hz0, hz1, hz2⟩ := info_parts infoY3
  have := run_make (P := Tryz.prog) w 38 3 i (.int .i64 0) Tryz.underlying38 hi hz0 .i64 .i64 n n (by omega) (Int.le_refl _) (by rw [hz2]; omega) (by omega)
  rw [this, hz1, Nat.mul_one, Int.toNat_natCast]
  have e : madeCells (Value.cells (.int .i64 0)) n = (List.replicate n (.int .i64 0)).toArray := by
    refine Array.ext' ?_
    refine List.ext_getElem? fun j => ?_
    by_cases hj : j < n
    · simp [madeCells, hj, Value.cells, Nat.mod_one]
    · simp [madeCells, hj]
  rw [e]
  exact ⟨_, rfl, ⟨_, List.length_replicate, heap_alloc_new _ _, fun j _ hj => by simp [hj], fun j y hj => by omega⟩, (Below.refl _ _).alloc (Nat.le_refl _) _, by simp⟩
theorem infoY9 : (Tryz.prog.info? 9).map (fun i => (i.zero, i.size, i.bytes)) = some (some (.string ⟨#[]⟩), 1, 16) := by kernel_rfl
theorem makeY9 (n : Nat) (h : n ≤ 4096) (Q : World → Nat → Value → Prop) (w : World) : ∃ w1, (Instr.makeSlice 29 (.int .i64 (n : Int)) (.int .i64 (n : Int))).run Tryz.prog w = .ok (.slice (some ⟨w.heap.size, 0, none⟩) n n) w1 ∧ FillQ Q 9 (.string ⟨#[]⟩) w1 w.heap.size n 0 ∧ Below w.heap.size w w1 ∧ w.heap.size < w1.heap.size := by
  obtain ⟨i, hi, hz0, hz1, hz2⟩ := info_parts infoY9
  have := run_make (P := Tryz.prog) w 29 9 i (.string ⟨#[]⟩) Tryz.underlying29 hi hz0 .i64 .i64 n n (by omega) (Int.le_refl _) (by rw [hz2]; omega) (by omega)
  rw [this, hz1, Nat.mul_one, Int.toNat_natCast]
  have e : madeCells (Value.cells (.string ⟨#[]⟩)) n = (List.replicate n (.string ⟨#[]⟩)).toArray := by
    refine Array.ext' ?_
    refine List.ext_getElem? fun j => ?_
    by_cases hj : j < n
    · simp [madeCells, hj, Value.cells, Nat.mod_one]
    · simp [madeCells, hj]
  rw [e]
  exact ⟨_, rfl, ⟨_, List.length_replicate, heap_alloc_new _ _, fun j _ hj => by simp [hj], fun j y hj => by omega⟩, (Below.refl _ _).alloc (Nat.le_refl _) _, by simp⟩
set_option maxRecDepth 20000 in
set_option maxHeartbeats 1600000 in
theorem eachRows (bB bA : Nat) (xs : List Value) (o : Option Addr) (cap : Nat) (hn : xs.length ≤ 4096) (Q : World → Nat → Value → Prop) (w : World) (hQ : Hid (Stay w.heap.size Q)) (hx : Hid (IsL w o xs)) (hstep : Hid (∀ (k : Nat) (x : Value) (v : World), xs[k]? = some x → Below w.heap.size w v → w.heap.size < v.heap.size → Calls Tryz.prog 94 #[x, .pointer (some ⟨bB, 0, none⟩), .pointer (some ⟨bA, 0, none⟩)] v fun r v' => ∃ oy ly cy, r = .returned (.slice oy ly cy) ∧ Q v' k (.slice oy ly cy) ∧ Below v.heap.size v v')) :
    Calls Tryz.prog 93 #[.slice o xs.length cap, .func (.func 94) #[] #[.pointer (some ⟨bB, 0, none⟩), .pointer (some ⟨bA, 0, none⟩)]] w fun r w' => ∃ o' ys, r = .returned (.slice o' xs.length xs.length) ∧ ys.length = xs.length ∧ w'.ownsRow w.heap.size 29 1 (.slice o' xs.length xs.length) xs.length ys ∧ (∀ k y, ys[k]? = some y → Q w' k y) ∧ Below w.heap.size w w' := by
  generalize hN : xs.length = n at *
  have HN : Hid (xs.length = n) := hN
  obtain ⟨w1, hmk, hf1, b1, s1⟩ := makeY29 n (by omega) Q w
  have HF1 : Hid (FillQ Q 29 (.slice none 0 0) w1 w.heap.size n 0) := hf1
  have B1 : Hid (Below w.heap.size w w1) := b1
  clear hf1 b1 hN
  go_enter Tryz.func93, Tryz.ntmps93
  go_wp2_with fail
  go_loopw [6, 7, 13] (fun _ _ t wr => ∃ k : Nat, k ≤ n ∧ t = .int .i64 (k : Int) ∧ FillQ Q 29 (.slice none 0 0) wr w.heap.size n k ∧ Below w.heap.size w wr) (fun _ _ t _ => n - (intOf t).toNat)
  case atStart => exact ⟨0, Nat.zero_le _, rfl, HF1.out, B1.out⟩
  case round =>
    obtain ⟨k, hk, rfl, hfl, hbl⟩ := hrel
    have HFL : Hid (FillQ Q 29 (.slice none 0 0) wr w.heap.size n k) := hfl
    have BL : Hid (Below w.heap.size w wr) := hbl
    clear hfl hbl
    by_cases hlt : k < n
    · obtain ⟨x, rfl, hxx⟩ := hx.out.some (by rw [HN.out]; omega)
      have hkl : k < xs.length := by rw [HN.out]; exact hlt
      have hu := List.getElem?_eq_getElem hkl
      generalize xs[k] = u at hu
      have HU : Hid (xs[k]? = some u) := hu
      have hcu := cell_later BL.out (hxx k u hu)
      have hszr : w.heap.size < wr.heap.size := HFL.out.lt
      have HS : Hid (Calls Tryz.prog 94 #[u, .pointer (some ⟨bB, 0, none⟩), .pointer (some ⟨bA, 0, none⟩)] wr fun r v' => ∃ oy ly cy, r = .returned (.slice oy ly cy) ∧ Q v' k (.slice oy ly cy) ∧ Below wr.heap.size wr v') := hstep.out k u wr hu BL.out hszr
      have i0 : (0 : Int) ≤ (k : Int) := Int.natCast_nonneg _
      have i1 : (k : Int) < (n : Int) := by omega
      clear hmk hxx hu hkl
      go_wp2_with fail
      refine HS.out.mono ?_
      rintro e w4 ⟨oy, ly, cy, rfl, hy, b4⟩
      have HF4 : Hid (FillQ Q 29 (.slice none 0 0) w4 w.heap.size n k) := HFL.out.later hQ.out b4
      have B4 : Hid (Below w.heap.size w w4) := bel2 BL.out b4
      have hc := HF4.out.cell hlt
      have hz := HF4.out.fz k
      have HF5 : Hid (FillQ Q 29 (.slice none 0 0) (w4.setCell ⟨w.heap.size, k, none⟩ (.slice oy ly cy)) w.heap.size n (k + 1)) := HF4.out.put hQ.out hlt hy
      have B5 : Hid (Below w.heap.size w (w4.setCell ⟨w.heap.size, k, none⟩ (.slice oy ly cy))) := B4.out.setCell (Nat.le_refl _) _
      clear b4 hy
      go_wp2
      go_roundw
      case rel => exact ⟨k + 1, by omega, by go_num, HF5.out, B5.out⟩
      case measure => simp [intOf]; omega
    · obtain rfl : k = n := by omega
      clear hmk
      go_wp2
      go_ret
      obtain ⟨ys, h1, h2, h3⟩ := HFL.out.done (Nat.le_refl _) (by omega)
      exact ⟨_, ys, rfl, h1, h2, h3, BL.out⟩
set_option maxRecDepth 20000 in
set_option maxHeartbeats 1600000 in
theorem eachThere (xs : List Value) (o : Option Addr) (cap : Nat) (hn : xs.length ≤ 4096) (Q : World → Nat → Value → Prop) (w : World) (hQ : Hid (Stay w.heap.size Q)) (hx : Hid (IsL w o xs)) (hstep : Hid (∀ (k : Nat) (x : Value) (v : World), xs[k]? = some x → Below w.heap.size w v → w.heap.size < v.heap.size → Calls Tryz.prog 98 #[x] v fun r v' => ∃ yb, r = .returned (.bool yb) ∧ Q v' k (.bool yb) ∧ Below v.heap.size v v')) :
    Calls Tryz.prog 97 #[.slice o xs.length cap, .func (.func 98) #[] #[]] w fun r w' => ∃ o' ys, r = .returned (.slice o' xs.length xs.length) ∧ ys.length = xs.length ∧ w'.ownsRow w.heap.size 4 1 (.slice o' xs.length xs.length) xs.length ys ∧ (∀ k y, ys[k]? = some y → Q w' k y) ∧ Below w.heap.size w w' := by
  generalize hN : xs.length = n at *
  have HN : Hid (xs.length = n) := hN
  obtain ⟨w1, hmk, hf1, b1, s1⟩ := makeY4 n (by omega) Q w
  have HF1 : Hid (FillQ Q 4 (.bool false) w1 w.heap.size n 0) := hf1
  have B1 : Hid (Below w.heap.size w w1) := b1
  clear hf1 b1 hN
  go_enter Tryz.func97, Tryz.ntmps97
  go_wp2_with fail
  go_loopw [6, 7, 13] (fun _ _ t wr => ∃ k : Nat, k ≤ n ∧ t = .int .i64 (k : Int) ∧ FillQ Q 4 (.bool false) wr w.heap.size n k ∧ Below w.heap.size w wr) (fun _ _ t _ => n - (intOf t).toNat)
  case atStart => exact ⟨0, Nat.zero_le _, rfl, HF1.out, B1.out⟩
  case round =>
    obtain ⟨k, hk, rfl, hfl, hbl⟩ := hrel
    have HFL : Hid (FillQ Q 4 (.bool false) wr w.heap.size n k) := hfl
    have BL : Hid (Below w.heap.size w wr) := hbl
    clear hfl hbl
    by_cases hlt : k < n
    · obtain ⟨x, rfl, hxx⟩ := hx.out.some (by rw [HN.out]; omega)
      have hkl : k < xs.length := by rw [HN.out]; exact hlt
      have hu := List.getElem?_eq_getElem hkl
      generalize xs[k] = u at hu
      have HU : Hid (xs[k]? = some u) := hu
      have hcu := cell_later BL.out (hxx k u hu)
      have hszr : w.heap.size < wr.heap.size := HFL.out.lt
      have HS : Hid (Calls Tryz.prog 98 #[u] wr fun r v' => ∃ yb, r = .returned (.bool yb) ∧ Q v' k (.bool yb) ∧ Below wr.heap.size wr v') := hstep.out k u wr hu BL.out hszr
      have i0 : (0 : Int) ≤ (k : Int) := Int.natCast_nonneg _
      have i1 : (k : Int) < (n : Int) := by omega
      clear hmk hxx hu hkl
      go_wp2_with fail
      refine HS.out.mono ?_
      rintro e w4 ⟨yb, rfl, hy, b4⟩
      have HF4 : Hid (FillQ Q 4 (.bool false) w4 w.heap.size n k) := HFL.out.later hQ.out b4
      have B4 : Hid (Below w.heap.size w w4) := bel2 BL.out b4
      have hc := HF4.out.cell hlt
      have hz := HF4.out.fz k
      have HF5 : Hid (FillQ Q 4 (.bool false) (w4.setCell ⟨w.heap.size, k, none⟩ (.bool yb)) w.heap.size n (k + 1)) := HF4.out.put hQ.out hlt hy
      have B5 : Hid (Below w.heap.size w (w4.setCell ⟨w.heap.size, k, none⟩ (.bool yb))) := B4.out.setCell (Nat.le_refl _) _
      clear b4 hy
      go_wp2
      go_roundw
      case rel => exact ⟨k + 1, by omega, by go_num, HF5.out, B5.out⟩
      case measure => simp [intOf]; omega
    · obtain rfl : k = n := by omega
      clear hmk
      go_wp2
      go_ret
      obtain ⟨ys, h1, h2, h3⟩ := HFL.out.done (Nat.le_refl _) (by omega)
      exact ⟨_, ys, rfl, h1, h2, h3, BL.out⟩
set_option maxRecDepth 20000 in
set_option maxHeartbeats 1600000 in
theorem eachInt (xs : List Value) (o : Option Addr) (cap : Nat) (hn : xs.length ≤ 4096) (Q : World → Nat → Value → Prop) (w : World) (hQ : Hid (Stay w.heap.size Q)) (hx : Hid (IsL w o xs)) (hstep : Hid (∀ (k : Nat) (x : Value) (v : World), xs[k]? = some x → Below w.heap.size w v → w.heap.size < v.heap.size → Calls Tryz.prog 101 #[x] v fun r v' => ∃ yz, r = .returned (.int .i64 yz) ∧ Q v' k (.int .i64 yz) ∧ Below v.heap.size v v')) :
    Calls Tryz.prog 100 #[.slice o xs.length cap, .func (.func 101) #[] #[]] w fun r w' => ∃ o' ys, r = .returned (.slice o' xs.length xs.length) ∧ ys.length = xs.length ∧ w'.ownsRow w.heap.size 3 1 (.slice o' xs.length xs.length) xs.length ys ∧ (∀ k y, ys[k]? = some y → Q w' k y) ∧ Below w.heap.size w w' := by
  generalize hN : xs.length = n at *
  have HN : Hid (xs.length = n) := hN
  obtain ⟨w1, hmk, hf1, b1, s1⟩ := makeY3 n (by omega) Q w
  have HF1 : Hid (FillQ Q 3 (.int .i64 0) w1 w.heap.size n 0) := hf1
  have B1 : Hid (Below w.heap.size w w1) := b1
  clear hf1 b1 hN
  go_enter Tryz.func100, Tryz.ntmps100
  go_wp2_with fail
  go_loopw [6, 7, 13] (fun _ _ t wr => ∃ k : Nat, k ≤ n ∧ t = .int .i64 (k : Int) ∧ FillQ Q 3 (.int .i64 0) wr w.heap.size n k ∧ Below w.heap.size w wr) (fun _ _ t _ => n - (intOf t).toNat)
  case atStart => exact ⟨0, Nat.zero_le _, rfl, HF1.out, B1.out⟩
  case round =>
    obtain ⟨k, hk, rfl, hfl, hbl⟩ := hrel
    have HFL : Hid (FillQ Q 3 (.int .i64 0) wr w.heap.size n k) := hfl
    have BL : Hid (Below w.heap.size w wr) := hbl
    clear hfl hbl
    by_cases hlt : k < n
    · obtain ⟨x, rfl, hxx⟩ := hx.out.some (by rw [HN.out]; omega)
      have hkl : k < xs.length := by rw [HN.out]; exact hlt
      have hu := List.getElem?_eq_getElem hkl
      generalize xs[k] = u at hu
      have HU : Hid (xs[k]? = some u) := hu
      have hcu := cell_later BL.out (hxx k u hu)
      have hszr : w.heap.size < wr.heap.size := HFL.out.lt
      have HS : Hid (Calls Tryz.prog 101 #[u] wr fun r v' => ∃ yz, r = .returned (.int .i64 yz) ∧ Q v' k (.int .i64 yz) ∧ Below wr.heap.size wr v') := hstep.out k u wr hu BL.out hszr
      have i0 : (0 : Int) ≤ (k : Int) := Int.natCast_nonneg _
      have i1 : (k : Int) < (n : Int) := by omega
      clear hmk hxx hu hkl
      go_wp2_with fail
      refine HS.out.mono ?_
      rintro e w4 ⟨yz, rfl, hy, b4⟩
      have HF4 : Hid (FillQ Q 3 (.int .i64 0) w4 w.heap.size n k) := HFL.out.later hQ.out b4
      have B4 : Hid (Below w.heap.size w w4) := bel2 BL.out b4
      have hc := HF4.out.cell hlt
      have hz := HF4.out.fz k
      have HF5 : Hid (FillQ Q 3 (.int .i64 0) (w4.setCell ⟨w.heap.size, k, none⟩ (.int .i64 yz)) w.heap.size n (k + 1)) := HF4.out.put hQ.out hlt hy
      have B5 : Hid (Below w.heap.size w (w4.setCell ⟨w.heap.size, k, none⟩ (.int .i64 yz))) := B4.out.setCell (Nat.le_refl _) _
      clear b4 hy
      go_wp2
      go_roundw
      case rel => exact ⟨k + 1, by omega, by go_num, HF5.out, B5.out⟩
      case measure => simp [intOf]; omega
    · obtain rfl : k = n := by omega
      clear hmk
      go_wp2
      go_ret
      obtain ⟨ys, h1, h2, h3⟩ := HFL.out.done (Nat.le_refl _) (by omega)
      exact ⟨_, ys, rfl, h1, h2, h3, BL.out⟩
set_option maxRecDepth 20000 in
set_option maxHeartbeats 1600000 in
theorem eachTruth (xs : List Value) (o : Option Addr) (cap : Nat) (hn : xs.length ≤ 4096) (Q : World → Nat → Value → Prop) (w : World) (hQ : Hid (Stay w.heap.size Q)) (hx : Hid (IsL w o xs)) (hstep : Hid (∀ (k : Nat) (x : Value) (v : World), xs[k]? = some x → Below w.heap.size w v → w.heap.size < v.heap.size → Calls Tryz.prog 104 #[x] v fun r v' => ∃ yb, r = .returned (.bool yb) ∧ Q v' k (.bool yb) ∧ Below v.heap.size v v')) :
    Calls Tryz.prog 103 #[.slice o xs.length cap, .func (.func 104) #[] #[]] w fun r w' => ∃ o' ys, r = .returned (.slice o' xs.length xs.length) ∧ ys.length = xs.length ∧ w'.ownsRow w.heap.size 4 1 (.slice o' xs.length xs.length) xs.length ys ∧ (∀ k y, ys[k]? = some y → Q w' k y) ∧ Below w.heap.size w w' := by
  generalize hN : xs.length = n at *
  have HN : Hid (xs.length = n) := hN
  obtain ⟨w1, hmk, hf1, b1, s1⟩ := makeY4 n (by omega) Q w
  have HF1 : Hid (FillQ Q 4 (.bool false) w1 w.heap.size n 0) := hf1
  have B1 : Hid (Below w.heap.size w w1) := b1
  clear hf1 b1 hN
  go_enter Tryz.func103, Tryz.ntmps103
  go_wp2_with fail
  go_loopw [6, 7, 13] (fun _ _ t wr => ∃ k : Nat, k ≤ n ∧ t = .int .i64 (k : Int) ∧ FillQ Q 4 (.bool false) wr w.heap.size n k ∧ Below w.heap.size w wr) (fun _ _ t _ => n - (intOf t).toNat)
  case atStart => exact ⟨0, Nat.zero_le _, rfl, HF1.out, B1.out⟩
  case round =>
    obtain ⟨k, hk, rfl, hfl, hbl⟩ := hrel
    have HFL : Hid (FillQ Q 4 (.bool false) wr w.heap.size n k) := hfl
    have BL : Hid (Below w.heap.size w wr) := hbl
    clear hfl hbl
    by_cases hlt : k < n
    · obtain ⟨x, rfl, hxx⟩ := hx.out.some (by rw [HN.out]; omega)
      have hkl : k < xs.length := by rw [HN.out]; exact hlt
      have hu := List.getElem?_eq_getElem hkl
      generalize xs[k] = u at hu
      have HU : Hid (xs[k]? = some u) := hu
      have hcu := cell_later BL.out (hxx k u hu)
      have hszr : w.heap.size < wr.heap.size := HFL.out.lt
      have HS : Hid (Calls Tryz.prog 104 #[u] wr fun r v' => ∃ yb, r = .returned (.bool yb) ∧ Q v' k (.bool yb) ∧ Below wr.heap.size wr v') := hstep.out k u wr hu BL.out hszr
      have i0 : (0 : Int) ≤ (k : Int) := Int.natCast_nonneg _
      have i1 : (k : Int) < (n : Int) := by omega
      clear hmk hxx hu hkl
      go_wp2_with fail
      refine HS.out.mono ?_
      rintro e w4 ⟨yb, rfl, hy, b4⟩
      have HF4 : Hid (FillQ Q 4 (.bool false) w4 w.heap.size n k) := HFL.out.later hQ.out b4
      have B4 : Hid (Below w.heap.size w w4) := bel2 BL.out b4
      have hc := HF4.out.cell hlt
      have hz := HF4.out.fz k
      have HF5 : Hid (FillQ Q 4 (.bool false) (w4.setCell ⟨w.heap.size, k, none⟩ (.bool yb)) w.heap.size n (k + 1)) := HF4.out.put hQ.out hlt hy
      have B5 : Hid (Below w.heap.size w (w4.setCell ⟨w.heap.size, k, none⟩ (.bool yb))) := B4.out.setCell (Nat.le_refl _) _
      clear b4 hy
      go_wp2
      go_roundw
      case rel => exact ⟨k + 1, by omega, by go_num, HF5.out, B5.out⟩
      case measure => simp [intOf]; omega
    · obtain rfl : k = n := by omega
      clear hmk
      go_wp2
      go_ret
      obtain ⟨ys, h1, h2, h3⟩ := HFL.out.done (Nat.le_refl _) (by omega)
      exact ⟨_, ys, rfl, h1, h2, h3, BL.out⟩
set_option maxRecDepth 20000 in
set_option maxHeartbeats 1600000 in
theorem eachPart (bI : Nat) (xs : List Value) (o : Option Addr) (cap : Nat) (hn : xs.length ≤ 4096) (Q : World → Nat → Value → Prop) (w : World) (hQ : Hid (Stay w.heap.size Q)) (hx : Hid (IsL w o xs)) (hstep : Hid (∀ (k : Nat) (x : Value) (v : World), xs[k]? = some x → Below w.heap.size w v → w.heap.size < v.heap.size → Calls Tryz.prog 207 #[x, .pointer (some ⟨bI, 0, none⟩)] v fun r v' => ∃ ys9, r = .returned (.string ys9) ∧ Q v' k (.string ys9) ∧ Below v.heap.size v v')) :
    Calls Tryz.prog 206 #[.slice o xs.length cap, .func (.func 207) #[] #[.pointer (some ⟨bI, 0, none⟩)]] w fun r w' => ∃ o' ys, r = .returned (.slice o' xs.length xs.length) ∧ ys.length = xs.length ∧ w'.ownsRow w.heap.size 9 1 (.slice o' xs.length xs.length) xs.length ys ∧ (∀ k y, ys[k]? = some y → Q w' k y) ∧ Below w.heap.size w w' := by
  generalize hN : xs.length = n at *
  have HN : Hid (xs.length = n) := hN
  obtain ⟨w1, hmk, hf1, b1, s1⟩ := makeY9 n (by omega) Q w
  have HF1 : Hid (FillQ Q 9 (.string ⟨#[]⟩) w1 w.heap.size n 0) := hf1
  have B1 : Hid (Below w.heap.size w w1) := b1
  clear hf1 b1 hN
  go_enter Tryz.func206, Tryz.ntmps206
  go_wp2_with fail
  go_loopw [6, 7, 13] (fun _ _ t wr => ∃ k : Nat, k ≤ n ∧ t = .int .i64 (k : Int) ∧ FillQ Q 9 (.string ⟨#[]⟩) wr w.heap.size n k ∧ Below w.heap.size w wr) (fun _ _ t _ => n - (intOf t).toNat)
  case atStart => exact ⟨0, Nat.zero_le _, rfl, HF1.out, B1.out⟩
  case round =>
    obtain ⟨k, hk, rfl, hfl, hbl⟩ := hrel
    have HFL : Hid (FillQ Q 9 (.string ⟨#[]⟩) wr w.heap.size n k) := hfl
    have BL : Hid (Below w.heap.size w wr) := hbl
    clear hfl hbl
    by_cases hlt : k < n
    · obtain ⟨x, rfl, hxx⟩ := hx.out.some (by rw [HN.out]; omega)
      have hkl : k < xs.length := by rw [HN.out]; exact hlt
      have hu := List.getElem?_eq_getElem hkl
      generalize xs[k] = u at hu
      have HU : Hid (xs[k]? = some u) := hu
      have hcu := cell_later BL.out (hxx k u hu)
      have hszr : w.heap.size < wr.heap.size := HFL.out.lt
      have HS : Hid (Calls Tryz.prog 207 #[u, .pointer (some ⟨bI, 0, none⟩)] wr fun r v' => ∃ ys9, r = .returned (.string ys9) ∧ Q v' k (.string ys9) ∧ Below wr.heap.size wr v') := hstep.out k u wr hu BL.out hszr
      have i0 : (0 : Int) ≤ (k : Int) := Int.natCast_nonneg _
      have i1 : (k : Int) < (n : Int) := by omega
      clear hmk hxx hu hkl
      go_wp2_with fail
      refine HS.out.mono ?_
      rintro e w4 ⟨ys9, rfl, hy, b4⟩
      have HF4 : Hid (FillQ Q 9 (.string ⟨#[]⟩) w4 w.heap.size n k) := HFL.out.later hQ.out b4
      have B4 : Hid (Below w.heap.size w w4) := bel2 BL.out b4
      have hc := HF4.out.cell hlt
      have hz := HF4.out.fz k
      have HF5 : Hid (FillQ Q 9 (.string ⟨#[]⟩) (w4.setCell ⟨w.heap.size, k, none⟩ (.string ys9)) w.heap.size n (k + 1)) := HF4.out.put hQ.out hlt hy
      have B5 : Hid (Below w.heap.size w (w4.setCell ⟨w.heap.size, k, none⟩ (.string ys9))) := B4.out.setCell (Nat.le_refl _) _
      clear b4 hy
      go_wp2
      go_roundw
      case rel => exact ⟨k + 1, by omega, by go_num, HF5.out, B5.out⟩
      case measure => simp [intOf]; omega
    · obtain rfl : k = n := by omega
      clear hmk
      go_wp2
      go_ret
      obtain ⟨ys, h1, h2, h3⟩ := HFL.out.done (Nat.le_refl _) (by omega)
      exact ⟨_, ys, rfl, h1, h2, h3, BL.out⟩
set_option maxRecDepth 20000 in
set_option maxHeartbeats 1600000 in
theorem eachZero (V : Value) (xs : List Value) (o : Option Addr) (cap : Nat) (hn : xs.length ≤ 4096) (Q : World → Nat → Value → Prop) (w : World) (hQ : Hid (Stay w.heap.size Q)) (hx : Hid (IsL w o xs)) (hstep : Hid (∀ (k : Nat) (x : Value) (v : World), xs[k]? = some x → Below w.heap.size w v → w.heap.size < v.heap.size → Calls Tryz.prog 194 #[V, x] v fun r v' => ∃ ys9, r = .returned (.string ys9) ∧ Q v' k (.string ys9) ∧ Below v.heap.size v v')) :
    Calls Tryz.prog 193 #[.slice o xs.length cap, .func (.func 194) #[V] #[]] w fun r w' => ∃ o' ys, r = .returned (.slice o' xs.length xs.length) ∧ ys.length = xs.length ∧ w'.ownsRow w.heap.size 9 1 (.slice o' xs.length xs.length) xs.length ys ∧ (∀ k y, ys[k]? = some y → Q w' k y) ∧ Below w.heap.size w w' := by
  generalize hN : xs.length = n at *
  have HN : Hid (xs.length = n) := hN
  obtain ⟨w1, hmk, hf1, b1, s1⟩ := makeY9 n (by omega) Q w
  have HF1 : Hid (FillQ Q 9 (.string ⟨#[]⟩) w1 w.heap.size n 0) := hf1
  have B1 : Hid (Below w.heap.size w w1) := b1
  clear hf1 b1 hN
  go_enter Tryz.func193, Tryz.ntmps193
  go_wp2_with fail
  go_loopw [6, 7, 13] (fun _ _ t wr => ∃ k : Nat, k ≤ n ∧ t = .int .i64 (k : Int) ∧ FillQ Q 9 (.string ⟨#[]⟩) wr w.heap.size n k ∧ Below w.heap.size w wr) (fun _ _ t _ => n - (intOf t).toNat)
  case atStart => exact ⟨0, Nat.zero_le _, rfl, HF1.out, B1.out⟩
  case round =>
    obtain ⟨k, hk, rfl, hfl, hbl⟩ := hrel
    have HFL : Hid (FillQ Q 9 (.string ⟨#[]⟩) wr w.heap.size n k) := hfl
    have BL : Hid (Below w.heap.size w wr) := hbl
    clear hfl hbl
    by_cases hlt : k < n
    · obtain ⟨x, rfl, hxx⟩ := hx.out.some (by rw [HN.out]; omega)
      have hkl : k < xs.length := by rw [HN.out]; exact hlt
      have hu := List.getElem?_eq_getElem hkl
      generalize xs[k] = u at hu
      have HU : Hid (xs[k]? = some u) := hu
      have hcu := cell_later BL.out (hxx k u hu)
      have hszr : w.heap.size < wr.heap.size := HFL.out.lt
      have HS : Hid (Calls Tryz.prog 194 #[V, u] wr fun r v' => ∃ ys9, r = .returned (.string ys9) ∧ Q v' k (.string ys9) ∧ Below wr.heap.size wr v') := hstep.out k u wr hu BL.out hszr
      have i0 : (0 : Int) ≤ (k : Int) := Int.natCast_nonneg _
      have i1 : (k : Int) < (n : Int) := by omega
      clear hmk hxx hu hkl
      go_wp2_with fail
      refine HS.out.mono ?_
      rintro e w4 ⟨ys9, rfl, hy, b4⟩
      have HF4 : Hid (FillQ Q 9 (.string ⟨#[]⟩) w4 w.heap.size n k) := HFL.out.later hQ.out b4
      have B4 : Hid (Below w.heap.size w w4) := bel2 BL.out b4
      have hc := HF4.out.cell hlt
      have hz := HF4.out.fz k
      have HF5 : Hid (FillQ Q 9 (.string ⟨#[]⟩) (w4.setCell ⟨w.heap.size, k, none⟩ (.string ys9)) w.heap.size n (k + 1)) := HF4.out.put hQ.out hlt hy
      have B5 : Hid (Below w.heap.size w (w4.setCell ⟨w.heap.size, k, none⟩ (.string ys9))) := B4.out.setCell (Nat.le_refl _) _
      clear b4 hy
      go_wp2
      go_roundw
      case rel => exact ⟨k + 1, by omega, by go_num, HF5.out, B5.out⟩
      case measure => simp [intOf]; omega
    · obtain rfl : k = n := by omega
      clear hmk
      go_wp2
      go_ret
      obtain ⟨ys, h1, h2, h3⟩ := HFL.out.done (Nat.le_refl _) (by omega)
      exact ⟨_, ys, rfl, h1, h2, h3, BL.out⟩
end Go.Proofs.YtcpfhfdgfcilaaaGreatDoor.Arr
