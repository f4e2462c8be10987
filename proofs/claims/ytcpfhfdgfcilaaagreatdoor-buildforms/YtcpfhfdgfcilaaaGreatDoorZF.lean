/-
  Values that may not be built: plain facts; many, row.
-/
import Derived.Test.YtcpfhfdgfcilaaaGreatDoorB30
set_option linter.unusedVariables false
namespace Go.Proofs.YtcpfhfdgfcilaaaGreatDoor.Arr
open Go.ChangeShapes Go.WideShapes Go.ChangeAt Go.RowKit
open Tree Val Sums
def fT : List Nd := [⟨3, -1, true⟩, ⟨2, 0, false⟩]
def fS (s : ByteArray) : List ByteArray := [s]
theorem fE0 : bdE [] 0 (fS ⟨#[91, 115, 49, 58, 97, 93]⟩) = 1000 := by decide +kernel
theorem fE3 : bdE fT 0 (fS ⟨#[91, 110, 93]⟩) = 1000 := by decide +kernel
theorem fE4 : bdE fT 0 (fS ⟨#[115, 49, 58, 97]⟩) = 1000 := by decide +kernel
theorem fE5 : bdE fT 0 (fS ⟨#[91, 115, 49, 55, 58, 97, 97, 97, 97, 97, 97, 97, 97, 97, 97, 97, 97, 97, 97, 97, 97, 97, 93]⟩) = 1000 := by decide +kernel
theorem fE6 : bdE fT 0 (awM 65 ++ [⟨#[116]⟩]) = 1000 := by decide +kernel
theorem fE1 {at' : Int} (h : hasB fT at' = false) (ss : List ByteArray) : bdE fT at' ss = 1000 := by
  unfold bdE
  rw [h]
  rfl
theorem fE7 (n : Nat) (h : 64 < n) : bdE fT 0 (awM n) = 1001 := by
  unfold bdE
  rw [if_pos, if_neg]
  · intro h1
    unfold buildF at h1
    rw [if_neg (fun h2 => by
      have := h2.1
      rw [List.length_map] at this
      unfold awM at this
      rw [List.length_replicate] at this
      omega)] at h1
    cases h1
  · rw [Bool.and_eq_true]
    refine ⟨by decide +kernel, ?_⟩
    unfold fitAll
    rw [List.all_eq_true]
    intro x hx
    unfold awM at hx
    rw [List.eq_of_mem_replicate hx]
    decide +kernel
/-- A list of so many empty texts. -/
def rowL (k : Nat) : List UInt8 := [91] ++ (List.replicate k [115, 48, 58]).flatten
def rowB (k : Nat) : ByteArray := ⟨(rowL k ++ [93]).toArray⟩
theorem fE8 : bdE fT 0 [rowB 40, rowB 25] = 1001 := by decide +kernel
theorem rowL_succ (k : Nat) : rowL (k + 1) = rowL k ++ [115, 48, 58] := by
  unfold rowL
  rw [List.replicate_succ', List.flatten_append, List.append_assoc]
  rfl
theorem rowL_length (k : Nat) : (rowL k).length = 3 * k + 1 := by
  induction k with
  | zero => rfl
  | succ k ih => rw [rowL_succ, List.length_append, ih]; show _ + 3 = _; omega
theorem fT_lies {w : World} {g : Nat} (h : w.heap[g]? = some (.cells #[.int .i64 3, .int .i64 (-1), .bool true, .int .i64 2, .int .i64 0, .bool false] 40)) : Lies w ⟨g, 0, none⟩ fT := by
  have hc : ∀ (j : Nat) v, (#[.int .i64 3, .int .i64 (-1), .bool true, .int .i64 2, .int .i64 0, .bool false] : Array Value)[j]? = some v → w.cell? ⟨g, j, none⟩ = some v := fun j v hv => by simp only [World.cell?, h]; exact hv
  constructor
  · intro i hi
    have hi : i < 2 := hi
    rw [add0]
    match i, hi with
    | 0, _ => exact hc 0 _ rfl
    | 1, _ => exact hc 3 _ rfl
  · intro i hi
    have hi : i < 2 := hi
    rw [add0]
    match i, hi with
    | 0, _ => exact hc 1 _ rfl
    | 1, _ => exact hc 4 _ rfl
  · intro i hi
    have hi : i < 2 := hi
    rw [add0]
    match i, hi with
    | 0, _ => exact hc 2 _ rfl
    | 1, _ => exact hc 5 _ rfl
theorem tx_one {w : World} {g : Nat} {s : ByteArray} (h : w.cell? ⟨g, 0, none⟩ = some (.string s)) : Texts.IsTx w (some ⟨g, 0, none⟩) (fS s) :=
  ⟨by show (1 : Nat) ≤ maxLen; decide, .inr ⟨_, rfl, fun i hi => by
    have hi : i < 1 := hi
    obtain rfl : i = 0 := by omega
    rw [add0]
    exact h⟩⟩
theorem rem9 (x : Int) : ∃ c : Nat, (IntKind.u64.wrap x).tmod 9 = (c : Int) ∧ c < 9 := by
  have h0 : 0 ≤ IntKind.u64.wrap x := by
    rw [show IntKind.u64.wrap x = x % 18446744073709551616 from rfl]
    omega
  rw [Int.tmod_eq_emod_of_nonneg h0]
  exact ⟨(IntKind.u64.wrap x % 9).toNat, by omega, by omega⟩
theorem fH1 (D : Nat) : hasB fT (-(1 + (D : Int))) = false := by
  unfold hasB
  rw [decide_eq_false (by rw [show fT.length = 2 from rfl]; omega)]
  rfl
theorem fH2 (D : Nat) : hasB fT (1 + (1 + (D : Int))) = false := by
  unfold hasB
  rw [decide_eq_false (by rw [show fT.length = 2 from rfl]; omega)]
  rfl
theorem lies_setF {w : World} {g b j : Nat} {u : Value} {ns : List Nd} (h : Lies w ⟨g, 0, none⟩ ns) (hne : g ≠ b) : Lies (w.setCell ⟨b, j, none⟩ u) ⟨g, 0, none⟩ ns := by
  have q : ∀ (k : Nat), (w.setCell ⟨b, j, none⟩ u).cell? ((⟨g, 0, none⟩ : Addr).add k) = w.cell? ((⟨g, 0, none⟩ : Addr).add k) := fun k => by
    rw [add0]
    exact World.cell?_of_block (Below.heap_setCell w ⟨b, j, none⟩ u g hne)
  exact ⟨fun i hi => by rw [q]; exact h.kind i hi, fun i hi => by rw [q]; exact h.par i hi, fun i hi => by rw [q]; exact h.null i hi⟩
theorem many_size {n : Nat} (s : ByteArray) (hs : s ∈ awM n) : s.size ≤ 9223372036854775807 := by
  unfold awM at hs
  rw [List.eq_of_mem_replicate hs]
  decide
set_option maxRecDepth 20000 in
set_option maxHeartbeats 1600000 in
theorem manyO (n : Nat) (hn : n ≤ 4096) (w : World) : Calls Tryz.prog 33 #[.int .i64 (n : Int)] w fun r w' => ∃ o c, r = .returned (.slice o n c) ∧ w'.ownsRow w.heap.size 9 1 (.slice o n c) n (Texts.cellsT (awM n)) ∧ Below w.heap.size w w' := by
  obtain ⟨i9, hi, hz0, hz1, hz2⟩ := info_parts info9
  have i0 : (0 : Int) ≤ (n : Int) := Int.natCast_nonneg _
  go_enter Tryz.func33, Tryz.ntmps33
  go_wp2_with fail
  go_loopw [3, 4] (fun v t wr => ∃ (k : Nat) (ov : Option Addr) (cv : Nat), k ≤ n ∧ t = .int .i64 (k : Int) ∧ v = .slice ov k cv ∧ wr.ownsRow w.heap.size 9 1 (.slice ov k cv) k (Texts.cellsT (awM k)) ∧ Below w.heap.size w wr) (fun _ t _ => n - (intOf t).toNat)
  case atStart => exact ⟨0, none, 0, Nat.zero_le _, rfl, rfl, World.ownsRow_nil _ _ _ _, Below.refl _ _⟩
  case round =>
    obtain ⟨k, ov, cv, hk, rfl, rfl, hown, hbl⟩ := hrel
    have HOWN : Hid (wr.ownsRow w.heap.size 9 1 (.slice ov k cv) k (Texts.cellsT (awM k))) := hown
    have BL : Hid (Below w.heap.size w wr) := hbl
    clear hown hbl
    have k0 : (0 : Int) ≤ (k : Int) := Int.natCast_nonneg _
    by_cases hlt : k < n
    · have hz := BL.out.size
      have hown := HOWN.out
      have HSN : Hid (Texts.cellsT (awM (k + 1)) = Texts.cellsT (awM k) ++ [.string ⟨#[110]⟩]) := by
        unfold Hid awM
        rw [List.replicate_succ', Texts.cellsT_snoc]
      go_wp2_with (at_builtin; refine wpList_append_own _ rfl (.tmp 10) (.tmp 11) 29 rfl w.heap.size 9 i9 (.string ⟨#[]⟩) 1 16 Tryz.underlying29 hi hz0 hz1 hz2 rfl (by decide) _ k _ rfl (hown.alloc _) ⟨wr.heap.size, 0, none⟩ 1 1 [.string ⟨#[110]⟩] rfl rfl ?c1 ?c2 ?c3 ?c4 ?c5 ?_)
      case c1 =>
        intro j u hj
        match j, hj with
        | 0, hj => simp at hj; subst hj; simp [Addr.add]
      case c2 => intro u hu; simp at hu; subst hu; rfl
      case c3 => unfold maxLen; omega
      case c4 => omega
      case c5 => simp; omega
      intro u6 w6 hown6 hgrow _
      have B6 : Hid (Below w.heap.size w w6) := (BL.out.alloc hz _).grown hgrow (by simp; omega) (fun j hj => (hown.lt j hj).1)
      obtain ⟨o6, c6, rfl⟩ := ownsRow_len hown6
      have HO6 : Hid (w6.ownsRow w.heap.size 9 1 (.slice o6 (k + 1) c6) (k + 1) (Texts.cellsT (awM (k + 1)))) := by
        unfold Hid
        rw [HSN.out]
        exact hown6
      clear hown6 hgrow hown
      go_wp2
      go_roundw
      case rel => exact ⟨k + 1, o6, c6, by omega, by go_num, rfl, HO6.out, B6.out⟩
      case measure => simp [intOf]; omega
    · obtain rfl : k = n := by omega
      go_wp2
      go_ret
      exact ⟨ov, cv, rfl, HOWN.out, BL.out⟩
set_option maxRecDepth 20000 in
set_option maxHeartbeats 1600000 in
theorem rowC (n : Nat) (hn : n ≤ 64) (w : World) : Calls Tryz.prog 34 #[.int .i64 (n : Int)] w fun r w' => r = .returned (.string (rowB n)) ∧ Below w.heap.size w w' := by
  have i0 : (0 : Int) ≤ (n : Int) := Int.natCast_nonneg _
  go_enter Tryz.func34, Tryz.ntmps34
  go_wp2_with fail
  go_loopw [3, 4] (fun v t wr => ∃ (k : Nat), k ≤ n ∧ t = .int .i64 (k : Int) ∧ v = .string ⟨(rowL k).toArray⟩ ∧ Below w.heap.size w wr) (fun _ t _ => n - (intOf t).toNat)
  case atStart => exact ⟨0, Nat.zero_le _, rfl, rfl, Below.refl _ _⟩
  case round =>
    obtain ⟨k, hk, rfl, rfl, hbl⟩ := hrel
    have BL : Hid (Below w.heap.size w wr) := hbl
    clear hbl
    have k0 : (0 : Int) ≤ (k : Int) := Int.natCast_nonneg _
    by_cases hlt : k < n
    · have HR : Hid ((⟨(rowL k).toArray⟩ : ByteArray) ++ ⟨#[115, 48, 58]⟩ = ⟨(rowL (k + 1)).toArray⟩) := by
        unfold Hid
        rw [rowL_succ]
        exact mk_app _ _
      have hz : ¬ 9223372036854775807 < (rowL k).length + 3 := by rw [rowL_length]; omega
      go_wp2
      go_roundw
      case rel => exact ⟨k + 1, by omega, by go_num, by rw [HR.out], BL.out⟩
      case measure => simp [intOf]; omega
    · obtain rfl : k = n := by omega
      have HR : Hid ((⟨(rowL k).toArray⟩ : ByteArray) ++ ⟨#[93]⟩ = rowB k) := mk_app _ _
      have hz : ¬ 9223372036854775807 < (rowL k).length + 1 := by rw [rowL_length]; omega
      go_wp2
      go_ret
      exact ⟨by rw [HR.out]; rfl, BL.out⟩
end Go.Proofs.YtcpfhfdgfcilaaaGreatDoor.Arr
