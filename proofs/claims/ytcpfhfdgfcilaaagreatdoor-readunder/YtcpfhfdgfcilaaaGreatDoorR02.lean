/-
  Several texts in one: What the functions of package types compute: contracts. · Rows of ints that are written; what the document's own TypeMay computes: contracts. · What types.Levels computes: its contract. · What the laws' own helpers compute: Num, SameInts, SpoilInts, SameNodes, CopyType: contracts. · What the laws' own helpers compute: SameType, CopyType: contracts. · What the laws over types are told of the type that came in; bounds of what is answered. · Arrays as plain trees; an array that came in (a struct of three numbers, three texts and a list of such), opened at every one within it. Over whatever program. · Whole numbers and their digits, as plain lists of bytes: which digits are a number's, and that number.
-/
import Derived.Test.YtcpfhfdgfcilaaaGreatDoorProg
import GoSem.Claim
import GoSem.ClaimJoined
import GoSem.ClaimMapViews
import Derived.JoinedTies
import Derived.KernelRfl
import Derived.RowKit
import Derived.Test.YtcpfhfdgfcilaaaGreatDoorR01
import Derived.WalkKit
import Derived.ProofKit
import Derived.OpenShut
import Derived.Below
import Derived.RegionTactic
import Derived.ChangeAlike
import Derived.OwnWalk
import Derived.Deep.QuietTactic
import Derived.BigQuiet
import Derived.WalkSmall
import Derived.Laws.OwnMore
import Derived.Laws.AppendOwnNone
import Derived.ChangeOld
import Derived.ChangeArms
import Derived.SizedLaws
import Derived.Deep.Slices
namespace Go.Proofs.YtcpfhfdgfcilaaaGreatDoor.Tree
open Go.ChangeShapes Go.WideShapes Go.ChangeAt Go.RowKit

/-- Is a a node of a type that may be? -/
def hasB (l : List Nd) (a : Int) : Bool := decide (0 ≤ a ∧ a < l.length) && may l
/-- The error that is told. -/
def errA (b : Bool) : Int := if b then 0 else 500
def kidsA (l : List Nd) (a : Int) : List Nat := if hasB l a then kids l a else []
theorem has_of {l : List Nd} {a : Int} (h : hasB l a = true) : ∃ k : Nat, a = k ∧ k < l.length ∧ May l := by
  unfold hasB at h
  rw [Bool.and_eq_true, decide_eq_true_eq] at h
  exact ⟨a.toNat, by omega, by omega, may_of h.2⟩
theorem May.up {l : List Nd} (h : May l) {k : Nat} (hk : k < l.length) : Up l k := ⟨h.first, fun i h1 h2 => h.par i h1 (by omega)⟩
set_option maxRecDepth 20000 in
set_option maxHeartbeats 800000 in
theorem has (a : Option Addr) (cap : Nat) (l : List Nd) (i : Int) (w : World) (h : IsT w a l) :
    Calls Tryz.prog 120 #[.agg #[.slice a l.length cap], .int .i64 i] w fun r w' => r = .returned (.bool (hasB l i)) ∧ Below w.heap.size w w' := by
  have hlen := h.1
  unfold maxLen at hlen
  have hb : Below w.heap.size w (w.alloc (Obj.cells #[.slice a l.length cap] 24)) := (Below.refl _ _).alloc (Nat.le_refl _) _
  by_cases h0 : 0 ≤ i
  · by_cases h1 : i < l.length
    · have HB : Hid (hasB l i = may l) := by unfold Hid hasB; rw [decide_eq_true ⟨h0, h1⟩, Bool.true_and]
      rw [HB.out]
      go_enter Tryz.func120, Tryz.ntmps120
      go_wp2_with fail
      refine (mayC a cap l _ (h.later hb)).mono ?_
      rintro e w' ⟨rfl, hb'⟩
      go_wp2
      go_ret
      exact ⟨rfl, bel hb hb'⟩
    · have HB : hasB l i = false := by unfold hasB; rw [decide_eq_false (fun h => h1 h.2), Bool.false_and]
      rw [HB]
      clear HB
      go_enter Tryz.func120, Tryz.ntmps120
      go_wp2
      go_ret
      exact ⟨rfl, hb⟩
  · have HB : hasB l i = false := by unfold hasB; rw [decide_eq_false (fun h => h0 h.1), Bool.false_and]
    rw [HB]
    clear HB
    go_enter Tryz.func120, Tryz.ntmps120
    go_wp2
    go_ret
    exact ⟨rfl, hb⟩
set_option maxRecDepth 20000 in
set_option maxHeartbeats 800000 in
theorem kidsP (a : Option Addr) (cap : Nat) (l : List Nd) (i : Int) (w : World) (h : IsT w a l) :
    Calls Tryz.prog 69 #[.agg #[.slice a l.length cap], .int .i64 i] w fun r w' => ∃ o c, r = .returned (.tuple #[.slice o (kidsA l i).length c, .int .i64 (errA (hasB l i))]) ∧ w'.ownsRow w.heap.size 3 1 (.slice o (kidsA l i).length c) (kidsA l i).length (ints (kidsA l i)) ∧ Below w.heap.size w w' := by
  unfold kidsA errA
  have hb : Below w.heap.size w (w.alloc (Obj.cells #[.slice a l.length cap] 24)) := (Below.refl _ _).alloc (Nat.le_refl _) _
  have hc : (w.alloc (Obj.cells #[.slice a l.length cap] 24)).cell? ⟨w.heap.size, 0, none⟩ = some (.slice a l.length cap) := by simp
  cases hh : hasB l i
  · rw [if_neg (by simp), if_neg (by simp)]
    have HH : Hid (hasB l i = false) := hh
    clear hh
    go_enter Tryz.func69, Tryz.ntmps69
    go_wp2_with fail
    refine (has a cap l i _ (h.later hb)).mono ?_
    rintro e w' ⟨rfl, hb'⟩
    rw [HH.out]
    go_wp2
    go_ret2
    exact ⟨none, 0, rfl, World.ownsRow_nil _ _ _ _, bel hb hb'⟩
  · rw [if_pos rfl, if_pos rfl]
    obtain ⟨k, rfl, hk, hm⟩ := has_of hh
    have HH : Hid (hasB l k = true) := hh
    have HM : Hid (May l) := hm
    clear hh hm
    obtain ⟨x, rfl, hl⟩ := h.some (by omega)
    go_enter Tryz.func69, Tryz.ntmps69
    go_wp2_with fail
    refine (has _ cap l k _ (h.later hb)).mono ?_
    rintro e w' ⟨rfl, hb'⟩
    rw [HH.out]
    have hc2 := cell_later hb' hc
    go_wp2_with fail
    refine (kidsC x cap l HM.out.most k _ (hl.later (bel hb hb')) HM.out.first).mono ?_
    rintro e w3 ⟨o, c, rfl, hown, hb3⟩
    go_wp2
    go_ret2
    exact ⟨o, c, rfl, own_mono hown (bel hb hb').size, bel (bel hb hb') hb3⟩
end Go.Proofs.YtcpfhfdgfcilaaaGreatDoor.Tree
namespace Go.Proofs.YtcpfhfdgfcilaaaGreatDoor.Tree
open Go.ChangeShapes Go.WideShapes Go.ChangeAt Go.RowKit

/-- So many ints lie at the head of block g, and may be written. -/
structure Row (w : World) (g L : Nat) (f : Nat → Nat) : Prop where
  cell : ∀ i, i < L → w.cell? ⟨g, i, none⟩ = some (.int .i64 ((f i : Nat) : Int))
  free : ∀ i, i < L → w.frozen? ⟨g, i, none⟩ = false
theorem Row.set {w : World} {g L : Nat} {f : Nat → Nat} (h : Row w g L f) (j : Nat) (hj : j < L) (v : Nat) : Row (w.setCell ⟨g, j, none⟩ (.int .i64 ((v : Nat) : Int))) g L (fun i => if i = j then v else f i) := by
  constructor
  · intro i hi
    by_cases e : i = j
    · subst e
      rw [World.cell?_setCell_same _ _ _ (h.cell i hi), if_pos rfl]
    · rw [World.cell?_setCell_other _ _ _ _ (by intro c; exact e (by injection c with _ c2; exact c2.symm)), h.cell i hi, if_neg e]
  · intro i hi
    rw [World.frozen?_setCell]
    exact h.free i hi
theorem Row.later {w w' : World} {g L : Nat} {f : Nat → Nat} (h : Row w g L f) (b : Below w.heap.size w w') : Row w' g L f :=
  ⟨fun i hi => cell_later b (h.cell i hi), fun i hi => by rw [b.frozen (p := ⟨g, i, none⟩) (World.block_lt_of_cell? _ _ (h.cell i hi))]; exact h.free i hi⟩
theorem Row.as {w : World} {g L : Nat} {f f' : Nat → Nat} (h : Row w g L f) (e : ∀ i, i < L → f i = f' i) : Row w g L f' :=
  ⟨fun i hi => by rw [h.cell i hi, e i hi], h.free⟩
def zeros (n : Nat) : Array Value := madeCells (Value.cells (.int .i64 0)) n
theorem zeros_at (n i : Nat) (h : i < n) : (zeros n)[i]? = some (.int .i64 0) := by
  unfold zeros
  rw [← Array.getElem?_toList, show (Value.cells (.int .i64 0)) = #[.int .i64 0] from rfl, toList_madeCells_one, List.getElem?_replicate, if_pos h]
theorem Row.zeros (w : World) (n : Nat) : Row (w.alloc (.cells (zeros n) 3)) w.heap.size n (fun _ => 0) := by
  constructor
  · intro i hi
    rw [World.cell?_alloc_mark, zeros_at n i hi]
    rfl
  · intro i _
    rw [World.frozen?_alloc_mark]
    simp
theorem may_head {l : List Nd} (h : headOk l = false) : may l = false := by unfold may; rw [h]; rfl
end Go.Proofs.YtcpfhfdgfcilaaaGreatDoor.Tree
namespace Go.Proofs.YtcpfhfdgfcilaaaGreatDoor.Tree
open Go.ChangeShapes Go.WideShapes Go.ChangeAt Go.RowKit

end Go.Proofs.YtcpfhfdgfcilaaaGreatDoor.Tree
namespace Go.Proofs.YtcpfhfdgfcilaaaGreatDoor.Tree
open Go.ChangeShapes Go.WideShapes Go.ChangeAt Go.RowKit

theorem num (e : Int) (w : World) : Calls Tryz.prog 18 #[.int .i64 e] w fun r w' => r = .returned (.int .i64 e) ∧ w' = w := by
  go_enter Tryz.func18, Tryz.ntmps18
  go_wp2
  go_ret
  exact ⟨rfl, rfl⟩
/-- Ints that can be read and written. -/
def IsI (w : World) (b : Nat) (o : Option Addr) (p : List Nat) : Prop := p = [] ∨ ∃ g, o = some ⟨g, 0, none⟩ ∧ b ≤ g ∧ Row w g p.length (fun i => p.getD i 0)
theorem own_ints {w : World} {b c : Nat} {o : Option Addr} {p : List Nat} (h : w.ownsRow b 3 1 (.slice o p.length c) p.length (ints p)) : IsI w b o p := by
  rcases h.2 with ⟨_, h1⟩ | ⟨g, cap, cur, h0, hg, _⟩
  · exact .inl (List.eq_nil_of_length_eq_zero h1)
  · injection h0 with h2 h3 h4
    subst h2 h4
    refine .inr ⟨g, rfl, hg, fun i hi => ?_, fun i _ => h.frozenAt i⟩
    rw [h.cellAt i (by omega)]
    simp [ints, hi]
theorem IsI.later {w w' : World} {b : Nat} {o : Option Addr} {p : List Nat} (h : IsI w b o p) (hb : Below w.heap.size w w') : IsI w' b o p :=
  h.imp id fun ⟨g, e, hg, hr⟩ => ⟨g, e, hg, hr.later hb⟩
structure RowZ (w : World) (g L : Nat) (f : Nat → Int) : Prop where
  cell : ∀ i, i < L → w.cell? ⟨g, i, none⟩ = some (.int .i64 (f i))
  free : ∀ i, i < L → w.frozen? ⟨g, i, none⟩ = false
theorem RowZ.set {w : World} {g L : Nat} {f : Nat → Int} (h : RowZ w g L f) (j : Nat) (hj : j < L) (v : Int) : RowZ (w.setCell ⟨g, j, none⟩ (.int .i64 v)) g L (fun i => if i = j then v else f i) := by
  constructor
  · intro i hi
    by_cases e : i = j
    · subst e
      rw [World.cell?_setCell_same _ _ _ (h.cell i hi), if_pos rfl]
    · rw [World.cell?_setCell_other _ _ _ _ (by intro c; exact e (by injection c with _ c2; exact c2.symm)), h.cell i hi, if_neg e]
  · intro i hi
    rw [World.frozen?_setCell]
    exact h.free i hi
theorem RowZ.as {w : World} {g L : Nat} {f f' : Nat → Int} (h : RowZ w g L f) (e : ∀ i, i < L → f i = f' i) : RowZ w g L f' :=
  ⟨fun i hi => by rw [h.cell i hi, e i hi], h.free⟩
end Go.Proofs.YtcpfhfdgfcilaaaGreatDoor.Tree
namespace Go.Proofs.YtcpfhfdgfcilaaaGreatDoor.Tree
open Go.ChangeShapes Go.WideShapes Go.ChangeAt Go.RowKit

end Go.Proofs.YtcpfhfdgfcilaaaGreatDoor.Tree
namespace Go.Proofs.YtcpfhfdgfcilaaaGreatDoor.Tree
open Go.ChangeShapes Go.WideShapes Go.ChangeAt Go.RowKit

end Go.Proofs.YtcpfhfdgfcilaaaGreatDoor.Tree
namespace Go.Proofs.YtcpfhfdgfcilaaaGreatDoor.Arr
open Go.ChangeShapes Go.WideShapes Go.ChangeAt Go.RowKit

/-- An array. -/
structure Arr where
  layout : Int
  offset : Int
  length : Int
  valid : ByteArray
  ends : ByteArray
  data : ByteArray
  kids : List Arr
/-- An empty one. -/
def nil : Arr := ⟨0, 0, 0, ByteArray.empty, ByteArray.empty, ByteArray.empty, []⟩
/-- Its numbers are ints, its texts no longer than that. -/
structure Arr.ok (B : Nat) (a : Arr) : Prop where
  layout : (Lit.int .i64 a.layout).wf = true
  offset : (Lit.int .i64 a.offset).wf = true
  length : (Lit.int .i64 a.length).wf = true
  valid : a.valid.size ≤ B
  ends : a.ends.size ≤ B
  data : a.data.size ≤ B
/-- An array's seven cells. -/
def Arr.cells (a : Arr) (o : Option Addr) (cap : Nat) : List Value := [.int .i64 a.layout, .int .i64 a.offset, .int .i64 a.length, .string a.valid, .string a.ends, .string a.data, .slice o a.kids.length cap]
/-- These cells are an array's, as it lies in a world; so deep it goes. -/
def HoldsF (B bytes : Nat) (w : World) : Nat → List Value → Arr → Prop
  | 0, _, _ => False
  | f + 1, cs, a => ∃ (o : Option Addr) (cap : Nat), cs = a.cells o cap ∧ a.ok B ∧ a.kids.length ≤ cap ∧ cap * bytes ≤ B ∧ cap ≤ maxLen ∧
      (o = none ∧ a.kids = [] ∧ cap = 0 ∨ ∃ x, o = some x ∧ ∀ i, i < a.kids.length → ∃ cs', cs'.length = 7 ∧ (∀ j, j < 7 → w.cell? (x.add (i * 7 + j)) = cs'[j]?) ∧ HoldsF B bytes w f cs' (a.kids.getD i nil))
theorem HoldsF.later {B bytes : Nat} {w w' : World} (hb : Below w.heap.size w w') : ∀ {f : Nat} {cs : List Value} {a : Arr}, HoldsF B bytes w f cs a → HoldsF B bytes w' f cs a := by
  intro f
  induction f with
  | zero => intro cs a h; cases h
  | succ f ih =>
    rintro cs a ⟨o, cap, h1, h2, h3, h4, h5, h6⟩
    refine ⟨o, cap, h1, h2, h3, h4, h5, h6.imp id ?_⟩
    rintro ⟨x, e, hx⟩
    refine ⟨x, e, fun i hi => ?_⟩
    obtain ⟨cs', hl, hc, hh⟩ := hx i hi
    refine ⟨cs', hl, fun j hj => ?_, ih hh⟩
    have hv : cs'[j]? = some (cs'[j]'(by omega)) := List.getElem?_eq_getElem (by omega)
    have := hc j hj
    rw [hv] at this ⊢
    exact (hb.cell (World.block_lt_of_cell? _ _ this)).trans this

theorem HoldsF.more {B bytes : Nat} {w : World} : ∀ {f : Nat} {cs : List Value} {a : Arr}, HoldsF B bytes w f cs a → HoldsF B bytes w (f + 1) cs a := by
  intro f
  induction f with
  | zero => intro cs a h; cases h
  | succ f ih =>
    rintro cs a ⟨o, cap, h1, h2, h3, h4, h5, h6⟩
    refine ⟨o, cap, h1, h2, h3, h4, h5, h6.imp id ?_⟩
    rintro ⟨x, e, hx⟩
    refine ⟨x, e, fun i hi => ?_⟩
    obtain ⟨cs', hl, hc, hh⟩ := hx i hi
    exact ⟨cs', hl, hc, ih hh⟩

section
variable {H : Type} {enc : TypeId × Value → H} {P : Program} {w : World} {base : Nat} {held : Bool}

end
end Go.Proofs.YtcpfhfdgfcilaaaGreatDoor.Arr
namespace Go.Proofs.YtcpfhfdgfcilaaaGreatDoor.Val

def digF : Nat → Nat → List UInt8
  | 0, _ => []
  | f + 1, n => (if n < 10 then [] else digF f (n / 10)) ++ [UInt8.ofNat (48 + n % 10)]
/-- The digits of a number that is not below 0. -/
def dig (n : Nat) : List UInt8 := digF 20 n
theorem digF_succ (f n : Nat) : digF (f + 1) n = (if n < 10 then [] else digF f (n / 10)) ++ [UInt8.ofNat (48 + n % 10)] := rfl
theorem digF_more (f : Nat) : ∀ n, n < 10 ^ (f + 1) → digF (f + 1) n = digF (f + 2) n := by
  induction f with
  | zero =>
    intro n hn
    have h : n < 10 := by simpa using hn
    rw [digF_succ (0 + 1) n, digF_succ 0 n, if_pos h, if_pos h]
  | succ f ih =>
    intro n hn
    rw [digF_succ (f + 1 + 1) n, digF_succ (f + 1) n]
    by_cases h : n < 10
    · rw [if_pos h, if_pos h]
    · rw [if_neg h, if_neg h, ih (n / 10) (by rw [Nat.pow_succ] at hn; omega)]
/-- The last digit, and those ahead of it. -/
theorem dig_eq (n : Nat) (h : n < 10 ^ 20) : dig n = (if n < 10 then [] else dig (n / 10)) ++ [UInt8.ofNat (48 + n % 10)] := by
  unfold dig
  rw [digF]
  by_cases c : n < 10
  · rw [if_pos c, if_pos c]
  · rw [if_neg c, if_neg c, digF_more 18 (n / 10) (by omega)]
theorem dig_low (n : Nat) (h : n < 10) : dig n = [UInt8.ofNat (48 + n)] := by
  rw [dig_eq n (by omega), if_pos h, Nat.mod_eq_of_lt h]
  rfl
theorem dig_high (n : Nat) (h : 10 ≤ n) (h2 : n < 10 ^ 20) : dig n = dig (n / 10) ++ [UInt8.ofNat (48 + n % 10)] := by
  rw [dig_eq n h2, if_neg (by omega)]
theorem byte_nat (n : Nat) (h : n < 256) : (UInt8.ofNat n).toNat = n := by
  simp
  omega
theorem length_digF (f n : Nat) : (digF f n).length ≤ f := by
  induction f generalizing n with
  | zero => exact Nat.le_refl _
  | succ f ih =>
    rw [digF, List.length_append]
    split
    · simp
    · have := ih (n / 10)
      simp
      omega
theorem length_dig (n : Nat) : (dig n).length ≤ 20 := length_digF 20 n
theorem dig_ne (n : Nat) : dig n ≠ [] := by
  unfold dig
  rw [digF]
  simp
theorem digF_digit (f n : Nat) : ∀ b ∈ digF f n, 48 ≤ b.toNat ∧ b.toNat ≤ 57 := by
  induction f generalizing n with
  | zero => intro b hb; cases hb
  | succ f ih =>
    intro b hb
    rw [digF, List.mem_append] at hb
    rcases hb with hb | hb
    · split at hb
      · cases hb
      · exact ih _ b hb
    · rw [List.mem_singleton] at hb
      subst hb
      rw [byte_nat _ (by omega)]
      omega
theorem dig_digit (n : Nat) : ∀ b ∈ dig n, 48 ≤ b.toNat ∧ b.toNat ≤ 57 := digF_digit 20 n
/-- So many digits: a number below that. -/
theorem length_dig_le (k : Nat) : ∀ n, n < 10 ^ (k + 1) → k < 20 → (dig n).length ≤ k + 1 := by
  induction k with
  | zero =>
    intro n hn _
    rw [dig_low n (by simpa using hn)]
    exact Nat.le_refl _
  | succ k ih =>
    intro n hn hk
    have hp : 10 ^ (k + 1 + 1) ≤ 10 ^ 20 := Nat.pow_le_pow_right (by decide) (by omega)
    by_cases c : n < 10
    · rw [dig_low n c]
      simp
    · rw [dig_high n (by omega) (by omega), List.length_append]
      have := ih (n / 10) (by rw [Nat.pow_succ] at hn; omega) (by omega)
      simp
      omega
/-- What digits count to. -/
def evalN (l : List UInt8) : Int := l.foldl (fun a b => 10 * a + ((b.toNat : Int) - 48)) 0
theorem evalN_snoc (l : List UInt8) (b : UInt8) : evalN (l ++ [b]) = 10 * evalN l + ((b.toNat : Int) - 48) := by
  unfold evalN
  rw [List.foldl_append]
  rfl
theorem evalN_nil : evalN [] = 0 := rfl
theorem evalN_digF (f : Nat) : ∀ n, n < 10 ^ f → evalN (digF f n) = (n : Int) := by
  induction f with
  | zero => intro n hn; simp at hn; subst hn; rfl
  | succ f ih =>
    intro n hn
    rw [digF, evalN_snoc, byte_nat _ (by omega)]
    split
    · rw [evalN_nil]
      omega
    · rw [ih (n / 10) (by rw [Nat.pow_succ] at hn; omega)]
      omega
theorem evalN_dig (n : Nat) (h : n < 10 ^ 20) : evalN (dig n) = (n : Int) := evalN_digF 20 n h
/-- A whole number's digits, a sign ahead if it is below 0. -/
def intD (x : Int) : List UInt8 := if 0 ≤ x then dig x.toNat else 45 :: dig (-x).toNat
/-- What they count to. -/
def evalZ (l : List UInt8) : Int := if l.head? = some 45 then - evalN l.tail else evalN l
/-- A number of 64 bits. -/
def in64 (x : Int) : Prop := -9223372036854775808 ≤ x ∧ x ≤ 9223372036854775807
theorem dig_head (n : Nat) : (dig n).head? ≠ some 45 := by
  cases e : dig n with
  | nil => exact absurd e (dig_ne n)
  | cons x m =>
    have := dig_digit n x (by rw [e]; exact List.mem_cons_self)
    intro c
    have hx : x = 45 := by simpa using c
    rw [hx] at this
    exact absurd this.1 (by decide)
theorem evalZ_intD (x : Int) (h : in64 x) : evalZ (intD x) = x := by
  unfold intD in64 at *
  split
  · unfold evalZ
    rw [if_neg (dig_head _), evalN_dig _ (by omega)]
    omega
  · unfold evalZ
    rw [if_pos (show (45 :: dig (-x).toNat).head? = some 45 from rfl)]
    show - evalN (dig (-x).toNat) = x
    rw [evalN_dig _ (by omega)]
    omega
theorem length_intD (x : Int) (h : in64 x) : 1 ≤ (intD x).length ∧ (intD x).length ≤ 20 := by
  unfold intD in64 at *
  have h1 : ∀ n, 1 ≤ (dig n).length := fun n => List.length_pos_iff.2 (dig_ne n)
  split
  · exact ⟨h1 _, length_dig _⟩
  · have := length_dig_le 18 (-x).toNat (by omega) (by omega)
    have := h1 (-x).toNat
    simp
    omega
theorem intD_signs (x : Int) : ∀ b ∈ intD x, b = 45 ∨ 48 ≤ b.toNat ∧ b.toNat ≤ 57 := by
  intro b hb
  unfold intD at hb
  split at hb
  · exact .inr (dig_digit _ b hb)
  · rcases List.mem_cons.1 hb with e | e
    · exact .inl e
    · exact .inr (dig_digit _ b e)
/-- The whole number whose digits these are. -/
def numOf (l : List UInt8) : Option Int := if -9223372036854775808 ≤ evalZ l ∧ evalZ l ≤ 9223372036854775807 ∧ intD (evalZ l) = l then some (evalZ l) else none
theorem numOf_some {l : List UInt8} {x : Int} : numOf l = some x ↔ in64 x ∧ intD x = l := by
  unfold numOf
  constructor
  · intro h
    split at h
    · rename_i c
      injection h with h
      subst h
      exact ⟨⟨c.1, c.2.1⟩, c.2.2⟩
    · cases h
  · rintro ⟨hx, rfl⟩
    have := evalZ_intD x hx
    rw [if_pos (by rw [this]; exact ⟨hx.1, hx.2, rfl⟩), this]
theorem numOf_intD (x : Int) (h : in64 x) : numOf (intD x) = some x := numOf_some.2 ⟨h, rfl⟩
theorem numOf_length {l : List UInt8} {x : Int} (h : numOf l = some x) : 1 ≤ l.length ∧ l.length ≤ 20 := by
  obtain ⟨h1, rfl⟩ := numOf_some.1 h
  exact length_intD x h1
end Go.Proofs.YtcpfhfdgfcilaaaGreatDoor.Val
