/-
  Zeros below what is nothing: plain facts.
-/
import Derived.Test.YtcpfhfdgfcilaaaGreatDoorB30
set_option linter.unusedVariables false
namespace Go.Proofs.YtcpfhfdgfcilaaaGreatDoor.Arr
open Go.ChangeShapes Go.WideShapes Go.ChangeAt Go.RowKit
open Tree Val Sums
def zV : List ByteArray := [⟨#[110]⟩, ⟨#[110]⟩]
/-- The one kid of an array in memory of its own. -/
theorem kid1 {B : Nat} {w : World} {f : Nat} {ok : Nat → Prop} {a k : Arr} {o : Option Addr} {c : Nat} (h : HoldsO B w (f + 2) ok (a.cells o c) a) (hk : a.kids = [k]) :
    ∃ g oK cK, o = some ⟨g, 0, none⟩ ∧ w.cell? ⟨g, 0, none⟩ = some (.int .i64 k.layout) ∧ w.cell? ⟨g, 1, none⟩ = some (.int .i64 k.offset) ∧ w.cell? ⟨g, 2, none⟩ = some (.int .i64 k.length) ∧ w.cell? ⟨g, 3, none⟩ = some (.string k.valid) ∧ w.cell? ⟨g, 4, none⟩ = some (.string k.ends) ∧ w.cell? ⟨g, 5, none⟩ = some (.string k.data) ∧ w.cell? ⟨g, 6, none⟩ = some (.slice oK k.kids.length cK) := by
  obtain ⟨o', c', h1, h2, h3, h4, h5⟩ := h
  have ho : o = o' := by
    unfold Arr.cells at h1
    simp only [List.cons.injEq, Value.slice.injEq, and_true, true_and] at h1
    exact h1.1
  subst ho
  rcases h5 with ⟨_, h6, _⟩ | ⟨g, cur, rfl, _, hg, _, hx⟩
  · rw [hk] at h6; cases h6
  · obtain ⟨cs', hl, hc, hh⟩ := hx 0 (by rw [hk]; exact Nat.zero_lt_one)
    rw [hk] at hh
    obtain ⟨oK, cK, e1, _⟩ := hh
    subst e1
    have hcell : ∀ j, j < 7 → w.cell? ⟨g, j, none⟩ = (([k].getD 0 nil).cells oK cK)[j]? := fun j hj => by
      have := hc j hj
      rw [Nat.zero_mul, Nat.zero_add] at this
      rw [← this]
      simp [World.cell?, hg]
    exact ⟨g, oK, cK, rfl, hcell 0 (by decide), hcell 1 (by decide), hcell 2 (by decide), hcell 3 (by decide), hcell 4 (by decide), hcell 5 (by decide), hcell 6 (by decide)⟩
def zD : List ByteArray := [⟨#[0, 0, 0, 0, 0, 0, 0, 0, 0, 0, 0, 0, 0, 0, 0, 0]⟩, ⟨#[0]⟩, ⟨#[]⟩, ⟨#[]⟩]
def zN : List ByteArray := [⟨#[]⟩, ⟨#[]⟩, ⟨#[0, 0, 0, 0, 0, 0, 0, 0, 0, 0, 0, 0]⟩, ⟨#[0, 0, 0, 0, 0, 0, 0, 0, 0, 0, 0, 0]⟩]
theorem tx_new (v : World) : Texts.IsTx (v.alloc (.cells #[.string ⟨#[]⟩, .string ⟨#[]⟩, .string ⟨#[0, 0, 0, 0, 0, 0, 0, 0, 0, 0, 0, 0]⟩, .string ⟨#[0, 0, 0, 0, 0, 0, 0, 0, 0, 0, 0, 0]⟩] 9)) (some ⟨v.heap.size, 0, none⟩) zN := by
  obtain ⟨w1, e, h, _⟩ := tx_lit v zN (by decide)
  have e1 : v.alloc (.cells #[.string ⟨#[]⟩, .string ⟨#[]⟩, .string ⟨#[0, 0, 0, 0, 0, 0, 0, 0, 0, 0, 0, 0]⟩, .string ⟨#[0, 0, 0, 0, 0, 0, 0, 0, 0, 0, 0, 0]⟩] 9) = w1 := e
  rw [e1]; exact h
theorem tx_new3 (v : World) (g : Nat) (hg : g = ((v.alloc (.cells (Bit.zeros 12) 5)).alloc (.cells (Bit.zeros 12) 5)).heap.size) : Texts.IsTx (((v.alloc (.cells (Bit.zeros 12) 5)).alloc (.cells (Bit.zeros 12) 5)).alloc (.cells #[.string ⟨#[]⟩, .string ⟨#[]⟩, .string ⟨#[0, 0, 0, 0, 0, 0, 0, 0, 0, 0, 0, 0]⟩, .string ⟨#[0, 0, 0, 0, 0, 0, 0, 0, 0, 0, 0, 0]⟩] 9)).drew (some ⟨g, 0, none⟩) zN := by
  subst hg
  exact tx_new _
theorem below3 (v : World) : Below v.heap.size v (((v.alloc (.cells (Bit.zeros 12) 5)).alloc (.cells (Bit.zeros 12) 5)).alloc (.cells #[.string ⟨#[]⟩, .string ⟨#[]⟩, .string ⟨#[0, 0, 0, 0, 0, 0, 0, 0, 0, 0, 0, 0]⟩, .string ⟨#[0, 0, 0, 0, 0, 0, 0, 0, 0, 0, 0, 0]⟩] 9)).drew :=
  ((((Below.refl v.heap.size v).alloc (Nat.le_refl _) _).alloc (by simp) _).alloc (by simp; omega) _).drew
theorem info40z : (Tryz.prog.info? 40).map (fun i => (i.zero, i.size, i.bytes)) = some (some (.agg #[.int .i64 0, .int .i64 0, .bool false]), 3, 24) := by kernel_rfl
theorem lies_set {w : World} {g b j : Nat} {u : Value} {ns : List Nd} (h : Lies w ⟨g, 0, none⟩ ns) (hne : g ≠ b) : Lies (w.setCell ⟨b, j, none⟩ u) ⟨g, 0, none⟩ ns := by
  have q : ∀ (k : Nat), (w.setCell ⟨b, j, none⟩ u).cell? ((⟨g, 0, none⟩ : Addr).add k) = w.cell? ((⟨g, 0, none⟩ : Addr).add k) := fun k => by
    rw [add0]
    exact World.cell?_of_block (Below.heap_setCell w ⟨b, j, none⟩ u g hne)
  exact ⟨fun i hi => by rw [q]; exact h.kind i hi, fun i hi => by rw [q]; exact h.par i hi, fun i hi => by rw [q]; exact h.null i hi⟩
theorem tx_at {w : World} {g : Nat} {ss : List ByteArray} (h : Texts.IsTx w (some ⟨g, 0, none⟩) ss) (i : Nat) (hi : i < ss.length) : w.cell? ⟨g, i, none⟩ = some (.string (ss.getD i ByteArray.empty)) := by
  rcases h.2 with h0 | ⟨x, hx, hc⟩
  · rw [h0] at hi; cases hi
  · cases hx
    have := hc i hi
    rw [add0] at this
    exact this
theorem zeros_drew (v : World) : Bit.Bytes (v.alloc (.cells (Bit.zeros 12) 5)).drew v.heap.size (List.replicate 12 0) := ⟨(Bit.Bytes.zeros v 12).cell, (Bit.Bytes.zeros v 12).free⟩
theorem zbk (v : World) : (convert 42 9 (.slice (some ⟨v.heap.size, 0, none⟩) 12 12)).run Tryz.prog (v.alloc (.cells (Bit.zeros 12) 5)).drew = .ok (.string ⟨#[0, 0, 0, 0, 0, 0, 0, 0, 0, 0, 0, 0]⟩) (v.alloc (.cells (Bit.zeros 12) 5)).drew := (zeros_drew v).back rfl
theorem zbk2 (v : World) : (convert 42 9 (.slice (some ⟨v.heap.size, 0, none⟩) 12 12)).run Tryz.prog ((v.alloc (.cells (Bit.zeros 12) 5)).alloc (.cells (Bit.zeros 12) 5)).drew = .ok (.string ⟨#[0, 0, 0, 0, 0, 0, 0, 0, 0, 0, 0, 0]⟩) ((v.alloc (.cells (Bit.zeros 12) 5)).alloc (.cells (Bit.zeros 12) 5)).drew := by
  have hs : v.heap.size < (v.alloc (.cells (Bit.zeros 12) 5)).heap.size := by simp
  have hb := (Below.refl (v.alloc (.cells (Bit.zeros 12) 5)).heap.size (v.alloc (.cells (Bit.zeros 12) 5))).alloc (Nat.le_refl _) (.cells (Bit.zeros 12) 5)
  have h : Bit.Bytes ((v.alloc (.cells (Bit.zeros 12) 5)).alloc (.cells (Bit.zeros 12) 5)) v.heap.size (List.replicate 12 0) := ⟨fun i hi => (hb.cell (p := ⟨v.heap.size, i, none⟩) hs).trans ((Bit.Bytes.zeros v 12).cell i hi), fun i hi => by
    have := (Bit.Bytes.zeros v 12).free i hi
    simpa only [World.frozen?, hb.block v.heap.size hs] using this⟩
  have h2 : Bit.Bytes ((v.alloc (.cells (Bit.zeros 12) 5)).alloc (.cells (Bit.zeros 12) 5)).drew v.heap.size (List.replicate 12 0) := ⟨h.cell, h.free⟩
  exact h2.back rfl
theorem zbk3 (v : World) (g : Nat) (hg : g = (v.alloc (.cells (Bit.zeros 12) 5)).heap.size) : (convert 42 9 (.slice (some ⟨g, 0, none⟩) 12 12)).run Tryz.prog ((v.alloc (.cells (Bit.zeros 12) 5)).alloc (.cells (Bit.zeros 12) 5)).drew = .ok (.string ⟨#[0, 0, 0, 0, 0, 0, 0, 0, 0, 0, 0, 0]⟩) ((v.alloc (.cells (Bit.zeros 12) 5)).alloc (.cells (Bit.zeros 12) 5)).drew := by
  subst hg
  exact zbk (v.alloc (.cells (Bit.zeros 12) 5))
def zT0f : List Nd := [⟨4, -1, true⟩, ⟨0, 0, false⟩]
def zK0f : Arr := ⟨0, 0, 2, ⟨#[]⟩, ⟨#[]⟩, ⟨#[0, 0, 0, 0, 0, 0, 0, 0, 0, 0, 0, 0, 0, 0, 0, 0]⟩, []⟩
def zA0f : Arr := ⟨0, 0, 2, ⟨#[0]⟩, ⟨#[]⟩, ⟨#[]⟩, [zK0f]⟩
theorem zE0f : bdE zT0f 0 zV = 0 := by decide +kernel
theorem zB0f : bdA zT0f 0 zV = zA0f := by kernel_rfl
theorem zL0f {w : World} {g : Nat} (h : w.heap[g]? = some (.cells #[.int .i64 4, .int .i64 (-1), .bool true, .int .i64 0, .int .i64 0, .bool false] 40)) : Lies w ⟨g, 0, none⟩ zT0f := by
  have hc : ∀ (j : Nat) v, (#[.int .i64 4, .int .i64 (-1), .bool true, .int .i64 0, .int .i64 0, .bool false] : Array Value)[j]? = some v → w.cell? ⟨g, j, none⟩ = some v := fun j v hv => by simp only [World.cell?, h]; exact hv
  constructor
  · intro i hi
    have hi : i < 2 := hi
    rw [add0]
    match i, hi with
    | 0, _ => exact hc 0 _ rfl
    | 1, _ => exact hc 3 _ rfl
  · intro i hi
    have hi : i < 2 := hi
    rw [add0]
    match i, hi with
    | 0, _ => exact hc 1 _ rfl
    | 1, _ => exact hc 4 _ rfl
  · intro i hi
    have hi : i < 2 := hi
    rw [add0]
    match i, hi with
    | 0, _ => exact hc 2 _ rfl
    | 1, _ => exact hc 5 _ rfl
def zT0t : List Nd := [⟨4, -1, true⟩, ⟨0, 0, true⟩]
def zK0t : Arr := ⟨0, 0, 2, ⟨#[0]⟩, ⟨#[]⟩, ⟨#[0, 0, 0, 0, 0, 0, 0, 0, 0, 0, 0, 0, 0, 0, 0, 0]⟩, []⟩
def zA0t : Arr := ⟨0, 0, 2, ⟨#[0]⟩, ⟨#[]⟩, ⟨#[]⟩, [zK0t]⟩
theorem zE0t : bdE zT0t 0 zV = 0 := by decide +kernel
theorem zB0t : bdA zT0t 0 zV = zA0t := by kernel_rfl
theorem zL0t {w : World} {g : Nat} (h : w.heap[g]? = some (.cells #[.int .i64 4, .int .i64 (-1), .bool true, .int .i64 0, .int .i64 0, .bool true] 40)) : Lies w ⟨g, 0, none⟩ zT0t := by
  have hc : ∀ (j : Nat) v, (#[.int .i64 4, .int .i64 (-1), .bool true, .int .i64 0, .int .i64 0, .bool true] : Array Value)[j]? = some v → w.cell? ⟨g, j, none⟩ = some v := fun j v hv => by simp only [World.cell?, h]; exact hv
  constructor
  · intro i hi
    have hi : i < 2 := hi
    rw [add0]
    match i, hi with
    | 0, _ => exact hc 0 _ rfl
    | 1, _ => exact hc 3 _ rfl
  · intro i hi
    have hi : i < 2 := hi
    rw [add0]
    match i, hi with
    | 0, _ => exact hc 1 _ rfl
    | 1, _ => exact hc 4 _ rfl
  · intro i hi
    have hi : i < 2 := hi
    rw [add0]
    match i, hi with
    | 0, _ => exact hc 2 _ rfl
    | 1, _ => exact hc 5 _ rfl
def zT1f : List Nd := [⟨4, -1, true⟩, ⟨1, 0, false⟩]
def zK1f : Arr := ⟨0, 0, 2, ⟨#[]⟩, ⟨#[]⟩, ⟨#[0]⟩, []⟩
def zA1f : Arr := ⟨0, 0, 2, ⟨#[0]⟩, ⟨#[]⟩, ⟨#[]⟩, [zK1f]⟩
theorem zE1f : bdE zT1f 0 zV = 0 := by decide +kernel
theorem zB1f : bdA zT1f 0 zV = zA1f := by kernel_rfl
theorem zL1f {w : World} {g : Nat} (h : w.heap[g]? = some (.cells #[.int .i64 4, .int .i64 (-1), .bool true, .int .i64 1, .int .i64 0, .bool false] 40)) : Lies w ⟨g, 0, none⟩ zT1f := by
  have hc : ∀ (j : Nat) v, (#[.int .i64 4, .int .i64 (-1), .bool true, .int .i64 1, .int .i64 0, .bool false] : Array Value)[j]? = some v → w.cell? ⟨g, j, none⟩ = some v := fun j v hv => by simp only [World.cell?, h]; exact hv
  constructor
  · intro i hi
    have hi : i < 2 := hi
    rw [add0]
    match i, hi with
    | 0, _ => exact hc 0 _ rfl
    | 1, _ => exact hc 3 _ rfl
  · intro i hi
    have hi : i < 2 := hi
    rw [add0]
    match i, hi with
    | 0, _ => exact hc 1 _ rfl
    | 1, _ => exact hc 4 _ rfl
  · intro i hi
    have hi : i < 2 := hi
    rw [add0]
    match i, hi with
    | 0, _ => exact hc 2 _ rfl
    | 1, _ => exact hc 5 _ rfl
def zT1t : List Nd := [⟨4, -1, true⟩, ⟨1, 0, true⟩]
def zK1t : Arr := ⟨0, 0, 2, ⟨#[0]⟩, ⟨#[]⟩, ⟨#[0]⟩, []⟩
def zA1t : Arr := ⟨0, 0, 2, ⟨#[0]⟩, ⟨#[]⟩, ⟨#[]⟩, [zK1t]⟩
theorem zE1t : bdE zT1t 0 zV = 0 := by decide +kernel
theorem zB1t : bdA zT1t 0 zV = zA1t := by kernel_rfl
theorem zL1t {w : World} {g : Nat} (h : w.heap[g]? = some (.cells #[.int .i64 4, .int .i64 (-1), .bool true, .int .i64 1, .int .i64 0, .bool true] 40)) : Lies w ⟨g, 0, none⟩ zT1t := by
  have hc : ∀ (j : Nat) v, (#[.int .i64 4, .int .i64 (-1), .bool true, .int .i64 1, .int .i64 0, .bool true] : Array Value)[j]? = some v → w.cell? ⟨g, j, none⟩ = some v := fun j v hv => by simp only [World.cell?, h]; exact hv
  constructor
  · intro i hi
    have hi : i < 2 := hi
    rw [add0]
    match i, hi with
    | 0, _ => exact hc 0 _ rfl
    | 1, _ => exact hc 3 _ rfl
  · intro i hi
    have hi : i < 2 := hi
    rw [add0]
    match i, hi with
    | 0, _ => exact hc 1 _ rfl
    | 1, _ => exact hc 4 _ rfl
  · intro i hi
    have hi : i < 2 := hi
    rw [add0]
    match i, hi with
    | 0, _ => exact hc 2 _ rfl
    | 1, _ => exact hc 5 _ rfl
def zT2f : List Nd := [⟨4, -1, true⟩, ⟨2, 0, false⟩]
def zK2f : Arr := ⟨0, 0, 2, ⟨#[]⟩, ⟨#[0, 0, 0, 0, 0, 0, 0, 0, 0, 0, 0, 0]⟩, ⟨#[]⟩, []⟩
def zA2f : Arr := ⟨0, 0, 2, ⟨#[0]⟩, ⟨#[]⟩, ⟨#[]⟩, [zK2f]⟩
theorem zE2f : bdE zT2f 0 zV = 0 := by decide +kernel
theorem zB2f : bdA zT2f 0 zV = zA2f := by kernel_rfl
theorem zL2f {w : World} {g : Nat} (h : w.heap[g]? = some (.cells #[.int .i64 4, .int .i64 (-1), .bool true, .int .i64 2, .int .i64 0, .bool false] 40)) : Lies w ⟨g, 0, none⟩ zT2f := by
  have hc : ∀ (j : Nat) v, (#[.int .i64 4, .int .i64 (-1), .bool true, .int .i64 2, .int .i64 0, .bool false] : Array Value)[j]? = some v → w.cell? ⟨g, j, none⟩ = some v := fun j v hv => by simp only [World.cell?, h]; exact hv
  constructor
  · intro i hi
    have hi : i < 2 := hi
    rw [add0]
    match i, hi with
    | 0, _ => exact hc 0 _ rfl
    | 1, _ => exact hc 3 _ rfl
  · intro i hi
    have hi : i < 2 := hi
    rw [add0]
    match i, hi with
    | 0, _ => exact hc 1 _ rfl
    | 1, _ => exact hc 4 _ rfl
  · intro i hi
    have hi : i < 2 := hi
    rw [add0]
    match i, hi with
    | 0, _ => exact hc 2 _ rfl
    | 1, _ => exact hc 5 _ rfl
def zT2t : List Nd := [⟨4, -1, true⟩, ⟨2, 0, true⟩]
def zK2t : Arr := ⟨0, 0, 2, ⟨#[0]⟩, ⟨#[0, 0, 0, 0, 0, 0, 0, 0, 0, 0, 0, 0]⟩, ⟨#[]⟩, []⟩
def zA2t : Arr := ⟨0, 0, 2, ⟨#[0]⟩, ⟨#[]⟩, ⟨#[]⟩, [zK2t]⟩
theorem zE2t : bdE zT2t 0 zV = 0 := by decide +kernel
theorem zB2t : bdA zT2t 0 zV = zA2t := by kernel_rfl
theorem zL2t {w : World} {g : Nat} (h : w.heap[g]? = some (.cells #[.int .i64 4, .int .i64 (-1), .bool true, .int .i64 2, .int .i64 0, .bool true] 40)) : Lies w ⟨g, 0, none⟩ zT2t := by
  have hc : ∀ (j : Nat) v, (#[.int .i64 4, .int .i64 (-1), .bool true, .int .i64 2, .int .i64 0, .bool true] : Array Value)[j]? = some v → w.cell? ⟨g, j, none⟩ = some v := fun j v hv => by simp only [World.cell?, h]; exact hv
  constructor
  · intro i hi
    have hi : i < 2 := hi
    rw [add0]
    match i, hi with
    | 0, _ => exact hc 0 _ rfl
    | 1, _ => exact hc 3 _ rfl
  · intro i hi
    have hi : i < 2 := hi
    rw [add0]
    match i, hi with
    | 0, _ => exact hc 1 _ rfl
    | 1, _ => exact hc 4 _ rfl
  · intro i hi
    have hi : i < 2 := hi
    rw [add0]
    match i, hi with
    | 0, _ => exact hc 2 _ rfl
    | 1, _ => exact hc 5 _ rfl
def zT3f : List Nd := [⟨4, -1, true⟩, ⟨3, 0, false⟩, ⟨0, 1, false⟩]
def zK3f : Arr := ⟨0, 0, 2, ⟨#[]⟩, ⟨#[0, 0, 0, 0, 0, 0, 0, 0, 0, 0, 0, 0]⟩, ⟨#[]⟩, [⟨0, 0, 0, ⟨#[]⟩, ⟨#[]⟩, ⟨#[]⟩, []⟩]⟩
def zA3f : Arr := ⟨0, 0, 2, ⟨#[0]⟩, ⟨#[]⟩, ⟨#[]⟩, [zK3f]⟩
theorem zE3f : bdE zT3f 0 zV = 0 := by decide +kernel
theorem zB3f : bdA zT3f 0 zV = zA3f := by kernel_rfl
theorem zL3f {w : World} {b g c : Nat} (h : w.ownsRow b 40 3 (.slice (some ⟨g, 0, none⟩) 3 c) 3 [.int .i64 4, .int .i64 (-1), .bool true, .int .i64 3, .int .i64 0, .bool false, .int .i64 0, .int .i64 1, .bool false]) : Lies w ⟨g, 0, none⟩ zT3f := by
  have hc : ∀ (j : Nat) v, j < 9 → ([.int .i64 4, .int .i64 (-1), .bool true, .int .i64 3, .int .i64 0, .bool false, .int .i64 0, .int .i64 1, .bool false] : List Value)[j]? = some v → w.cell? ⟨g, j, none⟩ = some v := fun j v hj hv => by rw [h.cellAt j (by omega)]; exact hv
  constructor
  · intro i hi
    have hi : i < 3 := hi
    rw [add0]
    match i, hi with
    | 0, _ => exact hc 0 _ (by decide) rfl
    | 1, _ => exact hc 3 _ (by decide) rfl
    | 2, _ => exact hc 6 _ (by decide) rfl
  · intro i hi
    have hi : i < 3 := hi
    rw [add0]
    match i, hi with
    | 0, _ => exact hc 1 _ (by decide) rfl
    | 1, _ => exact hc 4 _ (by decide) rfl
    | 2, _ => exact hc 7 _ (by decide) rfl
  · intro i hi
    have hi : i < 3 := hi
    rw [add0]
    match i, hi with
    | 0, _ => exact hc 2 _ (by decide) rfl
    | 1, _ => exact hc 5 _ (by decide) rfl
    | 2, _ => exact hc 8 _ (by decide) rfl
def zT3t : List Nd := [⟨4, -1, true⟩, ⟨3, 0, true⟩, ⟨0, 1, false⟩]
def zK3t : Arr := ⟨0, 0, 2, ⟨#[0]⟩, ⟨#[0, 0, 0, 0, 0, 0, 0, 0, 0, 0, 0, 0]⟩, ⟨#[]⟩, [⟨0, 0, 0, ⟨#[]⟩, ⟨#[]⟩, ⟨#[]⟩, []⟩]⟩
def zA3t : Arr := ⟨0, 0, 2, ⟨#[0]⟩, ⟨#[]⟩, ⟨#[]⟩, [zK3t]⟩
theorem zE3t : bdE zT3t 0 zV = 0 := by decide +kernel
theorem zB3t : bdA zT3t 0 zV = zA3t := by kernel_rfl
theorem zL3t {w : World} {b g c : Nat} (h : w.ownsRow b 40 3 (.slice (some ⟨g, 0, none⟩) 3 c) 3 [.int .i64 4, .int .i64 (-1), .bool true, .int .i64 3, .int .i64 0, .bool true, .int .i64 0, .int .i64 1, .bool false]) : Lies w ⟨g, 0, none⟩ zT3t := by
  have hc : ∀ (j : Nat) v, j < 9 → ([.int .i64 4, .int .i64 (-1), .bool true, .int .i64 3, .int .i64 0, .bool true, .int .i64 0, .int .i64 1, .bool false] : List Value)[j]? = some v → w.cell? ⟨g, j, none⟩ = some v := fun j v hj hv => by rw [h.cellAt j (by omega)]; exact hv
  constructor
  · intro i hi
    have hi : i < 3 := hi
    rw [add0]
    match i, hi with
    | 0, _ => exact hc 0 _ (by decide) rfl
    | 1, _ => exact hc 3 _ (by decide) rfl
    | 2, _ => exact hc 6 _ (by decide) rfl
  · intro i hi
    have hi : i < 3 := hi
    rw [add0]
    match i, hi with
    | 0, _ => exact hc 1 _ (by decide) rfl
    | 1, _ => exact hc 4 _ (by decide) rfl
    | 2, _ => exact hc 7 _ (by decide) rfl
  · intro i hi
    have hi : i < 3 := hi
    rw [add0]
    match i, hi with
    | 0, _ => exact hc 2 _ (by decide) rfl
    | 1, _ => exact hc 5 _ (by decide) rfl
    | 2, _ => exact hc 8 _ (by decide) rfl
end Go.Proofs.YtcpfhfdgfcilaaaGreatDoor.Arr
