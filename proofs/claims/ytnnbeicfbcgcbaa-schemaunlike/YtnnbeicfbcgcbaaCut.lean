/-
  The nodes that stand whole behind a text's first byte, eight at most; which texts tell a type by them: plain facts.
-/
import Derived.Test.YtnnbeicfbcgcbaaTree
import Derived.Test.YtnnbeicfbcgcbaaText
import Derived.Test.YtnnbeicfbcgcbaaTold
import Derived.Test.YtnnbeicfbcgcbaaGetAny
namespace Go.Proofs.Ytnnbeicfbcgcbaa.Tree

def cutN (n : Nat) : Nat := if 24 ≤ n - 1 then 8 else (n - 1) / 3
/-- The nodes that stand whole in a text. -/
def cutL (l : List UInt8) : List Nd := (List.range (cutN l.length)).map (decN l)
theorem length_cutL (l : List UInt8) : (cutL l).length = cutN l.length := by simp [cutL]
theorem nd_cutL (l : List UInt8) (k : Nat) (h : k < (cutL l).length) : nd (cutL l) k = decN l k := by
  rw [length_cutL] at h
  unfold cutL
  generalize cutN l.length = n at *
  simp [nd, List.getD, h]
theorem cutN_le (n : Nat) : cutN n ≤ 8 := by unfold cutN; split <;> omega
/-- Another node stands there, and there is room for one. -/
theorem cutN_more (n k : Nat) : k < cutN n ↔ 3 ≤ (n : Int) - (1 + 3 * (k : Int)) ∧ k < 8 := by unfold cutN; split <;> omega
theorem cutN_text (k : Nat) (h : k ≤ 8) : cutN (1 + 3 * k) = k := by unfold cutN; split <;> omega
theorem cut_bytes (s : ByteArray) (k : Nat) (i : Nat) (hi : i = 1 + 3 * k) (q0 : i < s.size) (q1 : i + 1 < s.size) (q2 : i + 2 < s.size) :
    ∃ (a d : Nat) (b : Bool), decN s.data.toList k = ⟨(a : Int), (d : Int) - 1, b⟩ ∧ a ≤ 255 ∧ d ≤ 255 ∧ ((s[i].toNat : Nat) : Int) = (a : Int) ∧ ((s[i + 1].toNat : Nat) : Int) = (d : Int) ∧ (((s[i + 2].toNat : Nat) : Int) == 1) = b := by
  subst hi
  have h0 := byte_lt (s.data.toList.getD (1 + 3 * k) 0)
  have h1 := byte_lt (s.data.toList.getD (1 + 3 * k + 1) 0)
  refine ⟨(s.data.toList.getD (1 + 3 * k) 0).toNat, (s.data.toList.getD (1 + 3 * k + 1) 0).toNat, decide (s.data.toList.getD (1 + 3 * k + 2) 0 = 1), rfl, by omega, by omega, ?_, ?_, ?_⟩
  · rw [bytes_at s _ q0]
  · rw [bytes_at s _ q1]
  · rw [bytes_at s _ q2]
    generalize s.data.toList.getD (1 + 3 * k + 2) 0 = x
    rw [Bool.eq_iff_iff]
    simp only [beq_iff_eq, decide_eq_true_eq]
    constructor
    · intro h
      exact UInt8.toNat_inj.1 (by show x.toNat = 1; omega)
    · rintro rfl
      rfl
theorem size_toList (s : ByteArray) : s.data.toList.length = s.size := Array.length_toList
/-- A type's text: what stands whole in it is the type. -/
theorem isText.cut {s : ByteArray} (h : isText s) : cutL s.data.toList = decL s.data.toList := by
  obtain ⟨h1, h2, _⟩ := h
  have h8 := (may_of h2).most
  rw [length_decL] at h8
  unfold cutL decL
  rw [size_toList, h1, cutN_text _ h8]
theorem isText_of {s : ByteArray} (hm : may (cutL s.data.toList) = true) (he : (⟨(enc (cutL s.data.toList)).toArray⟩ : ByteArray) = s) : isText s := by
  have := may_true (may_of hm) hm
  rw [he] at this
  exact this
theorem isText_iff (s : ByteArray) : isText s ↔ may (cutL s.data.toList) = true ∧ (⟨(enc (cutL s.data.toList)).toArray⟩ : ByteArray) = s := by
  constructor
  · intro h
    rw [h.cut]
    exact ⟨h.2.1, h.2.2⟩
  · exact fun ⟨a, b⟩ => isText_of a b
end Go.Proofs.Ytnnbeicfbcgcbaa.Tree
