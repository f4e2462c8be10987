/-
  The one value that a text is: only: contract.
-/
import Derived.Test.YtejgjipmnmfkcaaGreatDoorTk
import Derived.Test.YtejgjipmnmfkcaaGreatDoorTb
import Derived.Test.YtejgjipmnmfkcaaGreatDoorKind
import Derived.Test.YtejgjipmnmfkcaaGreatDoorTake
import Derived.Test.YtejgjipmnmfkcaaGreatDoorBehind
import Derived.Deep.RegionWith
namespace Go.Proofs.YtejgjipmnmfkcaaGreatDoor.Val
open Go.ChangeShapes Go.WideShapes Go.ChangeAt Go.RowKit

theorem Home.six {w : World} (h : Home w) : 6 ≤ w.heap.size := by
  obtain ⟨tp, p, hv⟩ := h.rng
  unfold World.var? at hv
  rw [gRng, Option.bind_some] at hv
  by_cases c : 5 < w.heap.size
  · omega
  · rw [Array.getElem?_eq_none (by omega)] at hv
    cases hv
/-- A taker that is made. -/
theorem made (w : World) (s : ByteArray) : ∃ w1, w.alloc (.cells #[.string s, .int .i64 0] 66) = w1 ∧ Tk w1 w.heap.size s 0 ∧ Below w.heap.size w w1 ∧ w1.heap.size = w.heap.size + 1 :=
  ⟨_, rfl, ⟨heap_alloc_new _ _⟩, (Below.refl _ _).alloc (Nat.le_refl _) _, by simp⟩
/-- What is told of a text: one value, all of it; or none. -/
def OnlyA (s : ByteArray) (k : Int) (v c : ByteArray) (ok : Bool) : Prop := ok = true ∧ isVal (bl s) ∧ v = s ∧ k = kindOf (bl s) ∧ bl c = bodyOf (bl s) ∨ ok = false ∧ ¬ isVal (bl s)
theorem only_of {s : ByteArray} (hs : s.size ≤ 65536) {k : Int} {v c : ByteArray} {ok : Bool} {q : Nat} (hq : q ≤ s.size)
    (h : ok = true ∧ below (5 - 0) ((bl s).drop 0) = some (q - 0) ∧ v = s.extract 0 q ∧ k = kindOf (bl v) ∧ bl c = bodyOf (bl v) ∨ ok = false ∧ below (5 - 0) ((bl s).drop 0) = none) : OnlyA s k v c (ok && ((q : Int) == (s.size : Int))) := by
  rw [List.drop_zero] at h
  have hb : below (5 - 0) = val 4 := rfl
  rw [hb] at h
  rcases h with ⟨rfl, h1, h2, h3, h4⟩ | ⟨rfl, h1⟩
  · by_cases c : q = s.size
    · subst c
      have e : s.extract 0 s.size = s := by
        apply bl_inj
        rw [bl_extract, ← bl_length, List.take_length]
        rfl
      rw [e] at h2
      subst h2
      exact .inl ⟨by rw [Bool.true_and]; exact beq_self_eq_true _, ⟨by rw [bl_length]; exact hs, by rw [h1, bl_length]; rfl⟩, rfl, h3, h4⟩
    · refine .inr ⟨by rw [Bool.true_and, done_no q s.size (by omega)], fun hv => ?_⟩
      have := hv.2
      rw [h1, bl_length] at this
      injection this with this
      omega
  · refine .inr ⟨rfl, fun hv => ?_⟩
    rw [hv.2] at h1
    cases h1
set_option maxRecDepth 20000 in
set_option maxHeartbeats 1600000 in
theorem onlyC (s : ByteArray) (hs : s.size ≤ 9223372036854775807) (w : World) (hw : Hid (Home w)) :
    Calls Tryz.prog 28 #[.string s] w fun r w' => ∃ k v c ok, r = .returned (.tuple #[.agg #[.int .i64 k, .string v, .string c], .bool ok]) ∧ Below w.heap.size w w' ∧ OnlyA s k v c ok := by
  by_cases hs2 : s.size ≤ 65536
  · have hs3 : ¬ (65536 : Int) < (s.size : Int) := by omega
    obtain ⟨w1, e1, x1, b1, z1⟩ := box3 w 0 ⟨#[]⟩ ⟨#[]⟩
    obtain ⟨w2, e2, t2, b2, z2⟩ := made w1 s
    have Z1 : Hid (w1.heap.size = w.heap.size + 1) := z1
    have HX1 : Hid (Bx w1 w.heap.size 0 ⟨#[]⟩ ⟨#[]⟩) := x1
    have hh := hw.out.later (bel2 b1 b2)
    have h6 : 6 ≤ w1.heap.size := by have := hw.out.six; omega
    have E2 : Hid (w1.alloc (.cells #[.string s, .int .i64 0] 66) = w2) := e2
    clear z1 z2 x1 e2
    go_enter Tryz.func28, Tryz.ntmps28
    go_wp2_with fail
    rw [E2.out]
    have hcall := take_all 0 (by omega) w1.heap.size s 0 w2 (Nat.zero_le _) hs2 t2 hh h6
    refine hcall.mono ?_
    rintro e w3 ⟨k, v, c, ok, q, rfl, q1, q2, t3, m3, hok⟩
    have HA : Hid (OnlyA s k v c (ok && ((q : Int) == (s.size : Int)))) := only_of hs2 q2 hok
    have x3 := (HX1.out.later b2).move m3 (by have := Z1.out; omega)
    have hb3 : Below w.heap.size w w3 := (bel2 b1 b2).trans (m3.below (by have := Z1.out; omega) (by have := b2.size; have := Z1.out; omega))
    clear hcall hok e1 t2 m3 hh
    obtain ⟨w4, e4, x4, b4, z4⟩ := box3 w3 k v c
    have t4 := t3.later b4
    have x4r := x3.later b4
    have hb4 := bel2 hb3 b4
    have d0 := x4.c0
    have d1 := x4.c1
    have d2 := x4.c2
    have f0 := x4r.fz 0
    have f1 := x4r.fz 1
    have f2 := x4r.fz 2
    have g0 := x4r.c0
    have g1 := x4r.c1
    have g2 := x4r.c2
    obtain ⟨w5, e5, x5, m5⟩ := x4r.put k v c
    have t5 := t4.move m5 (by have := Z1.out; omega)
    have hb5 : Below w.heap.size w w5 := hb4.trans (m5.below (Nat.le_refl _) (by have := hb4.size; omega))
    have HT4 : Hid (Tk w4 w1.heap.size s q) := t4
    have HT5 : Hid (Tk w5 w1.heap.size s q) := t5
    have HX5 : Hid (Bx w5 w.heap.size k v c) := x5
    have HB5 : Hid (Below w.heap.size w w5) := hb5
    clear x4 x4r m5 t4 t3 x3 hb4 z4 t5 x5 hb5
    cases ok
    · go_wp2_with fail
      go_region
      clear d0 d1 d2 f0 f1 f2 g0 g1 g2 e5
      have d0 := HX5.out.c0
      have d1 := HX5.out.c1
      have d2 := HX5.out.c2
      go_wp2
      exact bodyPost_ret (v := .tuple #[.agg #[.int .i64 k, .string v, .string c], .bool false]) (by simp [results, Tryz.results28, go_sem, d0, d1, d2]) rfl ⟨k, v, c, false, rfl, bel2 HB5.out (drewN_below w5 1), HA.out⟩
    · obtain ⟨d, hd⟩ : ∃ d, ((q : Int) == (s.size : Int)) = d := ⟨_, rfl⟩
      rw [hd, Bool.true_and] at HA
      have HD : Hid (((q : Int) == (s.size : Int)) = d) := hd
      clear hd
      have hds : ∀ (y : World) (n : Nat) (a : Addr) (x : Value), (y.drewN n).setCell a x = (y.setCell a x).drewN n := fun _ _ _ _ => rfl
      go_wp2_with fail
      go_region_with (go_at_call 45; refine (doneC _ s q d HD.out _ (by first | exact HT4.out.later (drewN_below _ 1) | exact HT5.out.later (drewN_below _ 1))).mono ?_; rintro e w6 ⟨rfl, m6, rfl⟩)
      all_goals
        clear d0 d1 d2 f0 f1 f2 g0 g1 g2 e5
        have d0 := HX5.out.c0
        have d1 := HX5.out.c1
        have d2 := HX5.out.c2
        go_wp2
        exact bodyPost_ret (v := .tuple #[.agg #[.int .i64 k, .string v, .string c], .bool d]) (by simp [results, Tryz.results28, go_sem, d0, d1, d2]) rfl ⟨k, v, c, d, rfl, bel2 HB5.out (drewN_below w5 _), HA.out⟩
  · have hs3 : (65536 : Int) < (s.size : Int) := by omega
    have HA : Hid (OnlyA s 0 ⟨#[]⟩ ⟨#[]⟩ false) := .inr ⟨rfl, fun h => hs2 (by have := h.1; rw [bl_length] at this; exact this)⟩
    have b1 : Below w.heap.size w (w.alloc (.cells #[.int .i64 0, .string ⟨#[]⟩, .string ⟨#[]⟩] 46)) := (Below.refl _ _).alloc (Nat.le_refl _) _
    go_enter Tryz.func28, Tryz.ntmps28
    go_wp2_with fail
    exact bodyPost_ret (v := .tuple #[.agg #[.int .i64 0, .string ⟨#[]⟩, .string ⟨#[]⟩], .bool false]) (by simp [results, Tryz.results28, go_sem]) rfl ⟨0, _, _, false, rfl, b1, HA.out⟩
end Go.Proofs.YtejgjipmnmfkcaaGreatDoor.Val
