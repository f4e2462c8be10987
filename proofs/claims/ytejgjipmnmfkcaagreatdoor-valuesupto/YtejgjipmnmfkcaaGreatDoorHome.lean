/-
  What the listed variables of the library hold, and that they hold it still behind whatever leaves old blocks alone.
-/
import Derived.Test.YtejgjipmnmfkcaaGreatDoorRows
import Derived.Test.YtejgjipmnmfkcaaGreatDoorShelf
import Derived.WalkKit
import Derived.ProofKit
import Derived.Below
import Derived.LaidMore
import Derived.Lib.LaidTab
import Derived.Stop.LaidErr
import Derived.Stop.Joined
namespace Go.Proofs.YtejgjipmnmfkcaaGreatDoor.Val
open Go.ChangeShapes Go.WideShapes Go.ChangeAt Go.RowKit

/-- The variables that the rows list. -/
def laidV : List (String × DataW Unit) := Rows.valuesRow.laid
/-- What the library's functions read. -/
structure Home (w : World) : Prop where
  tab : Lib.TabIs Tryz.prog w "internal/strconv.uint64pow10" .u64 Lib.pow10Tab
  syn : ∃ tp p, w.var? Tryz.prog "strconv.ErrSyntax" = some #[.iface tp p]
  rng : ∃ tp p, w.var? Tryz.prog "strconv.ErrRange" = some #[.iface tp p]
theorem gTab : Tryz.prog.globalNamed "internal/strconv.uint64pow10" = some 0 := by kernel_rfl
theorem gSyn : Tryz.prog.globalNamed "strconv.ErrSyntax" = some 4 := by kernel_rfl
theorem gRng : Tryz.prog.globalNamed "strconv.ErrRange" = some 5 := by kernel_rfl
theorem var_same {w w' : World} {n : String} {g : Nat} {cs : Array Value} (hg : Tryz.prog.globalNamed n = some g) (h : w.var? Tryz.prog n = some cs) (hh : ∀ k, k < 6 → k < w.heap.size → w'.heap[k]? = w.heap[k]?) (hg6 : g < 6) : w'.var? Tryz.prog n = some cs := by
  have hl : g < w.heap.size := by
    unfold World.var? at h
    rw [hg, Option.bind_some] at h
    by_cases c : g < w.heap.size
    · exact c
    · rw [Array.getElem?_eq_none (by omega)] at h
      cases h
  unfold World.var? at h ⊢
  rw [hg, Option.bind_some] at h ⊢
  rw [hh g hg6 hl]
  exact h
theorem Home.same {w w' : World} (h : Home w) (hh : ∀ k, k < 6 → k < w.heap.size → w'.heap[k]? = w.heap[k]?) : Home w' := by
  obtain ⟨t1, p1, h1⟩ := h.syn
  obtain ⟨t2, p2, h2⟩ := h.rng
  exact ⟨var_same gTab h.tab hh (by omega), ⟨t1, p1, var_same gSyn h1 hh (by omega)⟩, ⟨t2, p2, var_same gRng h2 hh (by omega)⟩⟩
theorem Home.later {w w' : World} (h : Home w) (hb : Below w.heap.size w w') : Home w' := h.same fun k _ hk => hb.block k hk
theorem tTab : (Tryz.prog.globals[0]?).map (·.type) = some 120 := by kernel_rfl
theorem tSyn : (Tryz.prog.globals[4]?).map (·.type) = some 79 := by kernel_rfl
theorem tRng : (Tryz.prog.globals[5]?).map (·.type) = some 79 := by kernel_rfl
theorem star : "*" ++ "errors.errorString" = "*errors.errorString" := by decide
theorem rowE (u : TypeId) (h : Tryz.prog.typeName? 3 u = some "*errors.errorString") : u = 143 :=
  typeName_ptr_named (nm := "errors.errorString") (by rw [star]; kernel_rfl) (by kernel_rfl) (by decide) u (by rw [star]; exact h)
theorem home_of {W : World} (h : laidMetH Tryz.prog laidV W) : Home W := by
  rw [MakeChecks.laidMetH_plain _ _ _ (by kernel_rfl)] at h
  have h1 : laidMet Tryz.prog [("internal/strconv.uint64pow10", Lib.tabData .u64 Lib.pow10Tab), ("strconv.ErrRange", Rows.laid_strconv_ErrRange), ("strconv.ErrSyntax", Rows.laid_strconv_ErrSyntax)] W := h.tail.tail
  obtain ⟨a1, s1, v1, _⟩ := laid_sentinel h1.tail gRng tRng Tryz.underlying79 rowE Tryz.underlying143 Tryz.underlying145 rfl rfl Tryz.underlying9 (by kernel_rfl) (by kernel_rfl)
  obtain ⟨a2, s2, v2, _⟩ := laid_sentinel h1.tail.tail gSyn tSyn Tryz.underlying79 rowE Tryz.underlying143 Tryz.underlying145 rfl rfl Tryz.underlying9 (by kernel_rfl) (by kernel_rfl)
  exact ⟨Lib.tabIs_of_head gTab tTab Tryz.underlying120 Tryz.underlying73 (by kernel_rfl) (by kernel_rfl) h1, ⟨_, _, v2⟩, ⟨_, _, v1⟩⟩
end Go.Proofs.YtejgjipmnmfkcaaGreatDoor.Val
