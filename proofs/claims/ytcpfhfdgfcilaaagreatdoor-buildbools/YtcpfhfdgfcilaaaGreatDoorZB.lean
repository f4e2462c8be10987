/-
  Truths in bits: plain facts.
-/
import Derived.Test.YtcpfhfdgfcilaaaGreatDoorB30
set_option linter.unusedVariables false
namespace Go.Proofs.YtcpfhfdgfcilaaaGreatDoor.Arr
open Go.ChangeShapes Go.WideShapes Go.ChangeAt Go.RowKit
open Tree Val Sums
def bT : List Nd := [⟨1, -1, false⟩]
def bv (b : Bool) : ByteArray := if b then ⟨#[116]⟩ else ⟨#[102]⟩
def bA (bs : List Bool) : Arr := ⟨0, 0, (bs.length : Int), ⟨#[]⟩, ⟨#[]⟩, ⟨(Sums.ofTo bs bs.length).toArray⟩, []⟩
theorem bT_build (bs : List Bool) (h : bs.length ≤ 31) : buildF bT 8 (0 : Int).toNat ((bs.map bv).map bl) = some (bA bs) := by
  rw [List.map_map]
  have hl : (bs.map (bl ∘ bv)).length = bs.length := List.length_map _
  have hk : kids bT ((0 : Nat) : Int) = [] := by decide +kernel
  have hv : validOf (bs.map (bl ∘ bv)) = [] := by
    unfold validOf
    rw [if_pos]
    rw [List.all_eq_true]
    intro x hx
    obtain ⟨b, _, rfl⟩ := List.mem_map.1 hx
    cases b <;> decide
  have hd : dataOf bT 0 (bs.map (bl ∘ bv)) = Sums.ofTo bs bs.length := by
    rw [data1_all (by decide), List.map_map]
    have : bs.map ((fun v => decide (v = [116])) ∘ (bl ∘ bv)) = bs := by
      conv => rhs; rw [← List.map_id bs]
      exact List.map_congr_left (fun b _ => by cases b <;> decide)
    rw [this]
    rfl
  have he : endsOf bT 0 (bs.map (bl ∘ bv)) = [] := by
    unfold endsOf
    rw [if_neg (by decide)]
  unfold buildF
  rw [show (0 : Int).toNat = 0 from rfl, hv, hd, he, hk, hl, if_pos ⟨by omega, rfl, by rw [Sums.length_ofTo]; omega, by decide⟩]
  rfl
theorem bT_ok (bs : List Bool) (h : bs.length ≤ 31) : bdE bT 0 (bs.map bv) = 0 ∧ bdA bT 0 (bs.map bv) = bA bs := by
  have hE : bdE bT 0 (bs.map bv) = 0 := by
    unfold bdE
    rw [if_pos, if_pos]
    · rw [bT_build bs h]; rfl
    · rw [Bool.and_eq_true]
      refine ⟨by decide +kernel, ?_⟩
      unfold fitAll
      rw [List.all_eq_true]
      intro x hx
      obtain ⟨b, _, rfl⟩ := List.mem_map.1 hx
      cases b <;> decide +kernel
  refine ⟨hE, ?_⟩
  unfold bdA
  rw [if_pos hE, bT_build bs h]
  rfl
theorem bA_ok (B : Nat) (hB : 4096 ≤ B) (bs : List Bool) (h : bs.length ≤ 31) : (bA bs).ok B := ⟨rfl, rfl, by
  show (decide (IntKind.i64.min ≤ (bs.length : Int)) && decide ((bs.length : Int) ≤ IntKind.i64.max)) = true
  rw [show IntKind.i64.min = -9223372036854775808 from by decide, show IntKind.i64.max = 9223372036854775807 from by decide, Bool.and_eq_true, decide_eq_true_eq, decide_eq_true_eq]
  omega, Nat.zero_le _, Nat.zero_le _, by
  show (Sums.ofTo bs bs.length).toArray.size ≤ B
  rw [List.size_toArray, Sums.length_ofTo]; omega⟩
theorem bT_lies {w : World} {g : Nat} (h : w.heap[g]? = some (.cells #[.int .i64 1, .int .i64 (-1), .bool false] 40)) : Lies w ⟨g, 0, none⟩ bT := by
  have hc : ∀ (j : Nat) v, (#[.int .i64 1, .int .i64 (-1), .bool false] : Array Value)[j]? = some v → w.cell? ⟨g, j, none⟩ = some v := fun j v hv => by simp only [World.cell?, h]; exact hv
  constructor
  · intro i hi
    have hi : i < 1 := hi
    rw [add0]
    match i, hi with
    | 0, _ => exact hc 0 _ rfl
  · intro i hi
    have hi : i < 1 := hi
    rw [add0]
    match i, hi with
    | 0, _ => exact hc 1 _ rfl
  · intro i hi
    have hi : i < 1 := hi
    rw [add0]
    match i, hi with
    | 0, _ => exact hc 2 _ rfl
/-- The i-th of a number's bits, as the program asks for it. -/
def bt (x : Int) (i : Nat) : Bool := bits .and .i64 (x / 2 ^ i) 1 == 1
theorem bits_prefix (f : Nat → Bool) (k i : Nat) (h : i < k) : (((List.range k).map f).getD i false) = f i := by simp [h]
def bvs (x : Int) (m : Nat) : List ByteArray := ((List.range m).map (bt x)).map bv
theorem bvs_length (x : Int) (m : Nat) : (bvs x m).length = m := by simp [bvs]
theorem bvs_sizes (x : Int) (m : Nat) : ∀ s ∈ bvs x m, s.size ≤ 9223372036854775807 := by
  intro s hs
  unfold bvs at hs
  obtain ⟨b, _, rfl⟩ := List.mem_map.1 hs
  cases b <;> decide
theorem cells_range (x : Int) (i : Nat) : Texts.cellsT (bvs x (i + 1)) = Texts.cellsT (bvs x i) ++ [.string (bv (bt x i))] := by
  unfold bvs
  rw [List.range_succ, List.map_append, List.map_append]
  exact Texts.cellsT_snoc _ _
theorem bytes_later {w w' : World} {g B : Nat} {l : List UInt8} (h : Bit.Bytes w g l) (hb : Below B w w') (hg : g < B) : Bit.Bytes w' g l :=
  ⟨fun i hi => (hb.cell (p := ⟨g, i, none⟩) hg).trans (h.cell i hi), fun i hi => by
    have := h.free i hi
    simpa [World.frozen?, hb.block g hg] using this⟩
end Go.Proofs.YtcpfhfdgfcilaaaGreatDoor.Arr
