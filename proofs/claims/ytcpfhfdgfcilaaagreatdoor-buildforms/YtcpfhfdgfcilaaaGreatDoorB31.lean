/-
  Several texts in one: What was built, read: plain facts. · Arrays held against arrays, texts against texts, whichever they are: contracts.
-/
import Derived.Test.YtcpfhfdgfcilaaaGreatDoorB30
import Derived.Test.YtcpfhfdgfcilaaaGreatDoorB11
import Derived.Test.YtcpfhfdgfcilaaaGreatDoorB12
set_option linter.unusedVariables false
namespace Go.Proofs.YtcpfhfdgfcilaaaGreatDoor.Arr
open Tree Val Sums

theorem sizes_in {ss : List ByteArray} (h : ∀ s ∈ ss, s.size ≤ maxLen) : SizesOk ss := fun k hk => by
  rw [getD_get ss hk]
  have := h _ (List.getElem_mem hk)
  unfold maxLen at this
  omega
/-- What was built is read as its values. -/
theorem bd_back {ns : List Nd} {at' : Int} {ss : List ByteArray} (h : bdE ns at' ss = 0) : mayZ ns at' 8 (bdA ns at' ss) = true ∧ valsA ns at' 8 (bdA ns at' ss) = ss ∧ valsE ns at' 8 (bdA ns at' ss) = 0 ∧ (bdA ns at' ss).length = (ss.length : Int) ∧ ss.length ≤ 64 := by
  have hA : bdA ns at' ss = (buildF ns 8 at'.toNat (ss.map bl)).getD nil := by unfold bdA; rw [if_pos h]
  unfold bdE at h
  split at h
  · rename_i hc
    rw [Bool.and_eq_true] at hc
    obtain ⟨hH, hFA⟩ := hc
    split at h
    · rename_i hS
      obtain ⟨n, rfl, hn, hM⟩ := has_of hH
      rw [Int.toNat_natCast] at hA hS
      obtain ⟨a, ha⟩ := Option.isSome_iff_exists.1 hS
      rw [ha, Option.getD_some] at hA
      have hfit := fit_all hH hFA
      have hmost := hM.most
      obtain ⟨h1, h2, h3⟩ := build_ok hM 8 n 8 (ss.map bl) a hn (by omega) hfit ha
      obtain ⟨_, h64, _⟩ := build_some ha
      rw [List.length_map] at h2 h64 h3
      have hZ : mayZ ns (n : Int) 8 a = true := by unfold mayZ; rw [hH, Int.toNat_natCast, h1]; rfl
      have hV : valsA ns (n : Int) 8 a = ss := by
        unfold valsA
        rw [if_pos hZ, h2, Int.toNat_natCast, Int.toNat_natCast]
        unfold told
        refine List.ext_getElem? fun k => ?_
        by_cases hk : k < ss.length
        · rw [List.getElem?_map, List.getElem?_range hk, List.getElem?_eq_getElem hk, Option.map_some, h3 k hk, bl_getD ss hk, getD_get ss hk]
          congr 1
        · rw [List.getElem?_eq_none (by simp; omega), List.getElem?_eq_none (by omega)]
      rw [hA]
      exact ⟨hZ, hV, by unfold valsE; rw [if_pos hZ], h2, h64⟩
    · cases h
  · cases h
end Go.Proofs.YtcpfhfdgfcilaaaGreatDoor.Arr
set_option linter.unusedVariables false
set_option linter.unusedSimpArgs false
namespace Go.Proofs.YtcpfhfdgfcilaaaGreatDoor.Arr
open Go.ChangeShapes Go.WideShapes Go.ChangeAt Go.RowKit
open Tree Val

/-- Are two arrays one? -/
def sameB : Nat → Arr → Arr → Bool
  | 0, _, _ => false
  | f + 1, a, b => decide (a.layout = b.layout ∧ a.offset = b.offset ∧ a.length = b.length ∧ a.valid = b.valid ∧ a.ends = b.ends ∧ a.data = b.data ∧ a.kids.length = b.kids.length) && (List.range a.kids.length).all fun k => sameB f (kidAt a k) (kidAt b k)
theorem kids_ext {x y : List Arr} (hl : x.length = y.length) (h : ∀ k, k < x.length → x.getD k nil = y.getD k nil) : x = y := by
  refine List.ext_getElem? fun k => ?_
  by_cases hk : k < x.length
  · have := h k hk
    rw [List.getD_eq_getElem?_getD, List.getD_eq_getElem?_getD, List.getElem?_eq_getElem hk, List.getElem?_eq_getElem (by omega)] at this
    rw [List.getElem?_eq_getElem hk, List.getElem?_eq_getElem (by omega)]
    exact congrArg some this
  · rw [List.getElem?_eq_none (by omega), List.getElem?_eq_none (by omega)]
theorem sameB_iff {B bytes : Nat} {w : World} : ∀ {f : Nat} {a b : Arr} {cs : List Value}, HoldsF B bytes w f cs a → (sameB f a b = true ↔ a = b) := by
  intro f
  induction f with
  | zero => intro a b cs h; cases h
  | succ f ih =>
    intro a b cs h
    rw [sameB, Bool.and_eq_true, decide_eq_true_eq, List.all_eq_true]
    constructor
    · rintro ⟨⟨h0, h1, h2, h3, h4, h5, h6⟩, h7⟩
      obtain ⟨a0, a1, a2, a3, a4, a5, ka⟩ := a
      obtain ⟨b0, b1, b2, b3, b4, b5, kb⟩ := b
      simp only at h0 h1 h2 h3 h4 h5 h6
      subst h0 h1 h2 h3 h4 h5
      congr 1
      refine kids_ext h6 fun k hk => ?_
      obtain ⟨o, cap, _, _, _, _, _, hc⟩ := h
      rcases hc with ⟨_, hk0, _⟩ | ⟨x, _, hx⟩
      · simp only at hk0
        rw [hk0] at hk
        cases hk
      · obtain ⟨cs', _, _, hh⟩ := hx k hk
        exact (ih hh).1 (h7 k (List.mem_range.2 hk))
    · rintro rfl
      refine ⟨⟨rfl, rfl, rfl, rfl, rfl, rfl, rfl⟩, fun k hk => ?_⟩
      have hk := List.mem_range.1 hk
      obtain ⟨o, cap, _, _, _, _, _, hc⟩ := h
      rcases hc with ⟨_, hk0, _⟩ | ⟨x, _, hx⟩
      · rw [hk0] at hk
        cases hk
      · obtain ⟨cs', _, _, hh⟩ := hx k hk
        exact (ih hh).2 rfl
theorem ne_text {s t : ByteArray} (h : s ≠ t) : (s.toList != t.toList) = true := by
  rw [bne_iff_ne, ByteArray.toList_eq, ByteArray.toList_eq]
  intro c
  exact h (ByteArray.ext (Array.toList_inj.1 c))
theorem ne_text2 {s t : ByteArray} (h : s ≠ t) : ¬ (s.toList = t.toList) := by
  rw [ByteArray.toList_eq, ByteArray.toList_eq]
  intro c
  exact h (ByteArray.ext (Array.toList_inj.1 c))
theorem eq_text {s t : ByteArray} (h : s = t) : (s.toList != t.toList) = false := by rw [h, bne_eq_false_iff_eq]
theorem ne_int {x y : Int} (h : x ≠ y) : (x != y) = true := bne_iff_ne.2 h
theorem eq_int {x y : Int} (h : x = y) : (x != y) = false := by rw [h, bne_eq_false_iff_eq]
def SameG (B bytes f : Nat) : Prop := ∀ (a : Arr) (o : Option Addr) (cap : Nat) (b : Arr) (o' : Option Addr) (cap' : Nat) (w : World), HoldsF B bytes w f (a.cells o cap) a → HoldsF B bytes w f (b.cells o' cap') b →
  Calls Tryz.prog 28 #[a.val o cap, b.val o' cap'] w fun r w' => r = .returned (.bool (sameB f a b)) ∧ Below w.heap.size w w'
set_option maxRecDepth 20000 in
set_option maxHeartbeats 3200000 in
theorem sameG_step (B bytes f : Nat) (ih : Hid (SameG B bytes f)) : SameG B bytes (f + 1) := by
  intro a o cap b o' cap' w hH hH'
  obtain ⟨w1, e1, x1, b1, z1⟩ := box7 w a o cap
  obtain ⟨w2, e2, x2, b2, z2⟩ := box7 w1 b o' cap'
  have B2 : Hid (Below w.heap.size w w2) := bel2 b1 b2
  have X1 : Hid (Bx w2 w.heap.size a o cap) := x1.later b2
  have X2 : Hid (Bx w2 w1.heap.size b o' cap') := x2
  have HH : Hid (HoldsF B bytes w (f + 1) (a.cells o cap) a) := hH
  have HH' : Hid (HoldsF B bytes w (f + 1) (b.cells o' cap') b) := hH'
  have hlen : a.kids.length ≤ 9223372036854775807 := by have := (hH.ok').2.1; unfold maxLen at this; omega
  have hlen' : b.kids.length ≤ 9223372036854775807 := by have := (hH'.ok').2.1; unfold maxLen at this; omega
  have HS : Hid (sameB (f + 1) a b = (decide (a.layout = b.layout ∧ a.offset = b.offset ∧ a.length = b.length ∧ a.valid = b.valid ∧ a.ends = b.ends ∧ a.data = b.data ∧ a.kids.length = b.kids.length) && (List.range a.kids.length).all fun k => sameB f (kidAt a k) (kidAt b k))) := rfl
  generalize sameB (f + 1) a b = R at *
  have d0 := X1.out.c0
  have d1 := X1.out.c1
  have d2 := X1.out.c2
  have d3 := X1.out.c3
  have d4 := X1.out.c4
  have d5 := X1.out.c5
  have d6 := X1.out.c6
  have f0 := X2.out.c0
  have f1 := X2.out.c1
  have f2 := X2.out.c2
  have f3 := X2.out.c3
  have f4 := X2.out.c4
  have f5 := X2.out.c5
  have f6 := X2.out.c6
  unfold Arr.val
  clear x1 x2 b1 b2 z1 z2 hH hH'
  by_cases h0 : a.layout = b.layout
  case neg =>
    have q0 : (a.layout != b.layout) = true := ne_int h0
    have HR : Hid (R = false) := by rw [HS.out, decide_eq_false (fun c => h0 c.1)]; rfl
    clear h0 HS
    go_enter Tryz.func28, Tryz.ntmps28
    go_wp2
    go_ret
    exact ⟨ret_bool HR.out.symm, B2.out⟩
  have q0 : (a.layout != b.layout) = false := eq_int h0
  have H0 : Hid (a.layout = b.layout) := h0
  clear h0
  by_cases h1 : a.offset = b.offset
  case neg =>
    have q1 : (a.offset != b.offset) = true := ne_int h1
    have HR : Hid (R = false) := by rw [HS.out, decide_eq_false (fun c => h1 c.2.1)]; rfl
    clear h1 HS
    go_enter Tryz.func28, Tryz.ntmps28
    go_wp2
    go_ret
    exact ⟨ret_bool HR.out.symm, B2.out⟩
  have q1 : (a.offset != b.offset) = false := eq_int h1
  have H1 : Hid (a.offset = b.offset) := h1
  clear h1
  by_cases h2 : a.length = b.length
  case neg =>
    have q2 : (a.length != b.length) = true := ne_int h2
    have HR : Hid (R = false) := by rw [HS.out, decide_eq_false (fun c => h2 c.2.2.1)]; rfl
    clear h2 HS
    go_enter Tryz.func28, Tryz.ntmps28
    go_wp2
    go_ret
    exact ⟨ret_bool HR.out.symm, B2.out⟩
  have q2 : (a.length != b.length) = false := eq_int h2
  have H2 : Hid (a.length = b.length) := h2
  clear h2
  by_cases h3 : a.valid = b.valid
  case neg =>
    have q3 : ¬ (a.valid.toList = b.valid.toList) := ne_text2 h3
    have HR : Hid (R = false) := by rw [HS.out, decide_eq_false (fun c => h3 c.2.2.2.1)]; rfl
    clear h3 HS
    go_enter Tryz.func28, Tryz.ntmps28
    go_wp2
    go_ret
    exact ⟨ret_bool HR.out.symm, B2.out⟩
  have q3 : a.valid.toList = b.valid.toList := by rw [h3]
  have H3 : Hid (a.valid = b.valid) := h3
  clear h3
  by_cases h4 : a.ends = b.ends
  case neg =>
    have q4 : ¬ (a.ends.toList = b.ends.toList) := ne_text2 h4
    have HR : Hid (R = false) := by rw [HS.out, decide_eq_false (fun c => h4 c.2.2.2.2.1)]; rfl
    clear h4 HS
    go_enter Tryz.func28, Tryz.ntmps28
    go_wp2
    go_ret
    exact ⟨ret_bool HR.out.symm, B2.out⟩
  have q4 : a.ends.toList = b.ends.toList := by rw [h4]
  have H4 : Hid (a.ends = b.ends) := h4
  clear h4
  by_cases h5 : a.data = b.data
  case neg =>
    have q5 : ¬ (a.data.toList = b.data.toList) := ne_text2 h5
    have HR : Hid (R = false) := by rw [HS.out, decide_eq_false (fun c => h5 c.2.2.2.2.2.1)]; rfl
    clear h5 HS
    go_enter Tryz.func28, Tryz.ntmps28
    go_wp2
    go_ret
    exact ⟨ret_bool HR.out.symm, B2.out⟩
  have q5 : a.data.toList = b.data.toList := by rw [h5]
  have H5 : Hid (a.data = b.data) := h5
  clear h5
  by_cases h6 : a.kids.length = b.kids.length
  case neg =>
    have q6 : (((a.kids.length : Nat) : Int) != ((b.kids.length : Nat) : Int)) = true := ne_int (by omega)
    have HR : Hid (R = false) := by rw [HS.out, decide_eq_false (fun c => h6 c.2.2.2.2.2.2)]; rfl
    clear h6 HS
    go_enter Tryz.func28, Tryz.ntmps28
    go_wp2
    go_ret
    exact ⟨ret_bool HR.out.symm, B2.out⟩
  have q6 : (((a.kids.length : Nat) : Int) != ((b.kids.length : Nat) : Int)) = false := eq_int (by rw [h6])
  have H6 : Hid (a.kids.length = b.kids.length) := h6
  clear h6
  have HD : Hid (R = (List.range a.kids.length).all fun k => sameB f (kidAt a k) (kidAt b k)) := by
    have hc : a.layout = b.layout ∧ a.offset = b.offset ∧ a.length = b.length ∧ a.valid = b.valid ∧ a.ends = b.ends ∧ a.data = b.data ∧ a.kids.length = b.kids.length := ⟨H0.out, H1.out, H2.out, H3.out, H4.out, H5.out, H6.out⟩
    have hs := HS.out
    rw [decide_eq_true hc, Bool.true_and] at hs
    exact hs
  rw [← H6.out] at f6
  clear H0 H1 H2 H3 H4 H5 HS
  go_enter Tryz.func28, Tryz.ntmps28
  go_wp2_with fail
  go_loopw [5] (fun t wr => ∃ k : Nat, k ≤ a.kids.length ∧ t = .int .i64 (k : Int) ∧ (∀ j, j < k → sameB f (kidAt a j) (kidAt b j) = true) ∧ Below w2.heap.size w2 wr) (fun t _ => a.kids.length - (intOf t).toNat)
  case atStart => exact ⟨0, Nat.zero_le _, rfl, fun j hj => by omega, Below.refl _ _⟩
  case round =>
    obtain ⟨k, hk, rfl, hall, hbl⟩ := hrel
    have HALL : Hid (∀ j, j < k → sameB f (kidAt a j) (kidAt b j) = true) := hall
    have BL : Hid (Below w2.heap.size w2 wr) := hbl
    have Y1 := X1.out.later hbl
    have Y2 := X2.out.later hbl
    clear d0 d1 d2 d3 d4 d5 d6 f0 f1 f2 f3 f4 f5 f6 hbl hall q0 q1 q2 q3 q4 q5 q6
    have d6 := Y1.c6
    by_cases hlt : k < a.kids.length
    · obtain ⟨xk, ok, ck, rfl, hkid, hkh⟩ := HH.out.kid (i := k) hlt
      obtain ⟨xk', ok', ck', rfl, hkid', hkh'⟩ := HH'.out.kid (i := k) (by have := H6.out; omega)
      have BR : Hid (Below w.heap.size w wr) := bel2 B2.out BL.out
      have hne := BW.some wr
      have KC := (hkid.later BR.out).cells
      have k0 := KC.k0
      have k1 := KC.k1
      have k2 := KC.k2
      have k3 := KC.k3
      have k4 := KC.k4
      have k5 := KC.k5
      have k6 := KC.k6
      have KC' := (hkid'.later BR.out).cells
      have m0 := KC'.k0
      have m1 := KC'.k1
      have m2 := KC'.k2
      have m3 := KC'.k3
      have m4 := KC'.k4
      have m5 := KC'.k5
      have m6 := KC'.k6
      have e6 : ∀ s : BW wr, s.w.cell? ⟨w.heap.size, 6, none⟩ = some (.slice (some xk) a.kids.length cap) := fun s => (Y1.later s.ok).c6
      have g6 : ∀ s : BW wr, s.w.cell? ⟨w1.heap.size, 6, none⟩ = some (.slice (some xk') a.kids.length cap') := fun s => by
        have := (Y2.later s.ok).c6
        rw [← H6.out] at this
        exact this
      have HMM : Hid (∀ v, Below wr.heap.size wr v → Calls Tryz.prog 28 #[(kidAt a k).val ok ck, (kidAt b k).val ok' ck'] v fun r w' => r = .returned (.bool (sameB f (kidAt a k) (kidAt b k))) ∧ Below v.heap.size v w') := fun v hv => ih.out (kidAt a k) ok ck (kidAt b k) ok' ck' v (hkh.later (bel2 BR.out hv)) (hkh'.later (bel2 BR.out hv))
      have HNO : Hid (sameB f (kidAt a k) (kidAt b k) = false → R = false) := fun h => by
        rw [HD.out, List.all_eq_false]
        exact ⟨k, List.mem_range.2 hlt, by rw [h]; simp⟩
      have HYES : Hid (sameB f (kidAt a k) (kidAt b k) = true → ∀ j, j < k + 1 → sameB f (kidAt a j) (kidAt b j) = true) := fun h j hj => by
        by_cases c : j < k
        · exact HALL.out j c
        · obtain rfl : j = k := by omega
          exact h
      have i1 : (k : Int) < ((a.kids.length : Nat) : Int) := by omega
      have i0 : (0 : Int) ≤ (k : Int) := Int.natCast_nonneg _
      unfold Arr.val at HMM
      clear KC KC' hkid hkid' hkh hkh' Y1 Y2
      generalize sameB f (kidAt a k) (kidAt b k) = S at *
      generalize kidAt a k = kk at *
      generalize kidAt b k = kb at *
      go_wp2_with fail
      refine region_in (C := fun w' => ∃ s : BW wr, w' = s.w) (by kernel_rfl) (by kernel_rfl) ⟨⟨wr.drew, (Below.refl _ _).drew⟩, rfl⟩ ?_
      repeat (go_big_quiet_step (first
        | (go_at_call 28; rename_i s; refine (HMM.out s.w s.ok).mono ?_; rintro e wx ⟨rfl, hbx⟩; exact ⟨rfl, ⟨wx, bel2 s.ok hbx⟩, rfl⟩)))
      refine wpQuiet_nil ?_
      intro _ hw'
      obtain ⟨s, hw''⟩ := hw'
      subst hw''
      have HE : Hid (Below w2.heap.size w2 s.w) := bel2 BL.out s.ok
      clear hne d6 e6 g6 k0 k1 k2 k3 k4 k5 k6 m0 m1 m2 m3 m4 m5 m6
      cases S
      · have HR : Hid (R = false) := HNO.out rfl
        clear HNO HYES
        go_wp2
        go_ret
        exact ⟨ret_bool HR.out.symm, bel2 B2.out HE.out⟩
      · have HA2 : Hid (∀ j, j < k + 1 → sameB f (kidAt a j) (kidAt b j) = true) := HYES.out rfl
        clear HNO HYES
        go_wp2
        go_roundw
        case rel => exact ⟨k + 1, by omega, by go_num, HA2.out, HE.out⟩
        case measure => simp [intOf]; omega
    · obtain rfl : k = a.kids.length := by omega
      have HR : Hid (R = true) := by
        rw [HD.out]
        exact List.all_eq_true.2 fun j hj => HALL.out j (List.mem_range.1 hj)
      clear Y1 Y2
      go_wp2
      go_ret
      exact ⟨ret_bool HR.out.symm, bel2 B2.out BL.out⟩
theorem sameG (B bytes : Nat) : ∀ f, SameG B bytes f := by
  intro f
  induction f with
  | zero => intro a o cap b o' cap' w hH _; cases hH
  | succ f ih => exact sameG_step B bytes f ih
def sameT (ss ts : List ByteArray) : Bool := decide (ss = ts)
set_option maxRecDepth 20000 in
set_option maxHeartbeats 1600000 in
theorem sameTextsG (o p : Option Addr) (c e : Nat) (ss ts : List ByteArray) (hn : ss.length ≤ 140737488355328) (hn' : ts.length ≤ 140737488355328) (w : World) (ho : Hid (Texts.IsTx w o ss)) (hp : Hid (Texts.IsTx w p ts)) :
    Calls Tryz.prog 22 #[.slice o ss.length c, .slice p ts.length e] w fun r w' => r = .returned (.bool (sameT ss ts)) ∧ Below w.heap.size w w' := by
  by_cases hl : ss.length = ts.length
  case neg =>
    have q : (((ss.length : Nat) : Int) != ((ts.length : Nat) : Int)) = true := ne_int (by omega)
    have HR : Hid (sameT ss ts = false) := decide_eq_false (fun c => hl (by rw [c]))
    clear hl
    go_enter Tryz.func22, Tryz.ntmps22
    go_wp2
    go_ret
    exact ⟨ret_bool HR.out.symm, Below.refl _ _⟩
  have q : (((ss.length : Nat) : Int) != ((ts.length : Nat) : Int)) = false := eq_int (by rw [hl])
  have HL : Hid (ss.length = ts.length) := hl
  have HS : Hid (sameT ss ts = decide (ss = ts)) := rfl
  clear hl
  generalize sameT ss ts = R at *
  go_enter Tryz.func22, Tryz.ntmps22
  go_wp2_with fail
  go_loopw [5] (fun t wr => ∃ k : Nat, k ≤ ss.length ∧ t = .int .i64 (k : Int) ∧ (∀ j, j < k → ss.getD j ByteArray.empty = ts.getD j ByteArray.empty) ∧ Below w.heap.size w wr) (fun t _ => ss.length - (intOf t).toNat)
  case atStart => exact ⟨0, Nat.zero_le _, rfl, fun j hj => by omega, Below.refl _ _⟩
  case round =>
    obtain ⟨k, hk, rfl, hall, hbl⟩ := hrel
    have HALL : Hid (∀ j, j < k → ss.getD j ByteArray.empty = ts.getD j ByteArray.empty) := hall
    clear hall
    by_cases hlt : k < ss.length
    · obtain ⟨x, rfl, hx⟩ := tx_at ho.out (by omega)
      obtain ⟨y, rfl, hy⟩ := tx_at hp.out (by have := HL.out; omega)
      have c1 := Tree.cell_later hbl (hx k hlt)
      have c2 := Tree.cell_later hbl (hy k (by have := HL.out; omega))
      have j0 : (0 : Int) ≤ (k : Int) := Int.natCast_nonneg _
      have j1 : (k : Int) < (ss.length : Int) := by omega
      have j2 : (k : Int) < (ts.length : Int) := by have := HL.out; omega
      clear hx hy
      by_cases hs : ss.getD k ByteArray.empty = ts.getD k ByteArray.empty
      · have hne : (!(ss.getD k ByteArray.empty).toList == (ts.getD k ByteArray.empty).toList) = false := eq_text hs
        have HA2 : Hid (∀ j, j < k + 1 → ss.getD j ByteArray.empty = ts.getD j ByteArray.empty) := fun j hj => by
          by_cases c : j < k
          · exact HALL.out j c
          · obtain rfl : j = k := by omega
            exact hs
        clear hs
        generalize ss.getD k ByteArray.empty = u at *
        generalize ts.getD k ByteArray.empty = v at *
        go_wp2_with fail
        go_quiet (fail)
        have HB : Hid (Below w.heap.size w (wr.drewN nq)) := below_drewN hbl nq
        clear hbl
        go_wp2
        go_roundw
        case rel => exact ⟨k + 1, by omega, by go_num, HA2.out, HB.out⟩
        case measure => simp [intOf]; omega
      · have hne : (!(ss.getD k ByteArray.empty).toList == (ts.getD k ByteArray.empty).toList) = true := ne_text hs
        have HR : Hid (R = false) := by
          rw [HS.out]
          exact decide_eq_false (fun c => hs (by rw [c]))
        clear hs
        generalize ss.getD k ByteArray.empty = u at *
        generalize ts.getD k ByteArray.empty = v at *
        go_wp2_with fail
        go_quiet (fail)
        have HB : Hid (Below w.heap.size w (wr.drewN nq)) := below_drewN hbl nq
        clear hbl
        go_wp2
        go_ret
        exact ⟨ret_bool HR.out.symm, HB.out⟩
    · obtain rfl : k = ss.length := by omega
      have HR : Hid (R = true) := by
        rw [HS.out]
        refine decide_eq_true (List.ext_getElem? fun i => ?_)
        by_cases hi : i < ss.length
        · have h1 := HALL.out i hi
          have h2 : i < ts.length := by have := HL.out; omega
          rw [List.getD_eq_getElem?_getD, List.getD_eq_getElem?_getD, List.getElem?_eq_getElem hi, List.getElem?_eq_getElem h2] at h1
          rw [List.getElem?_eq_getElem hi, List.getElem?_eq_getElem h2]
          exact congrArg some h1
        · rw [List.getElem?_eq_none (by omega), List.getElem?_eq_none (by have := HL.out; omega)]
      go_wp2
      go_ret
      exact ⟨ret_bool HR.out.symm, hbl⟩
end Go.Proofs.YtcpfhfdgfcilaaaGreatDoor.Arr
