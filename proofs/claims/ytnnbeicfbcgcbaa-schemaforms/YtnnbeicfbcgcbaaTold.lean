/-
  Which texts tell a type: plain facts.
-/
import Derived.Test.YtnnbeicfbcgcbaaTree
import Derived.Test.YtnnbeicfbcgcbaaText
namespace Go.Proofs.Ytnnbeicfbcgcbaa.Tree

/-- The nodes that a text tells, three bytes each. -/
def decL (l : List UInt8) : List Nd := (List.range (l.getD 0 0).toNat).map (decN l)
theorem length_decL (l : List UInt8) : (decL l).length = (l.getD 0 0).toNat := by simp [decL]
theorem nd_decL (l : List UInt8) (k : Nat) (h : k < (l.getD 0 0).toNat) : nd (decL l) k = decN l k := by
  unfold decL
  generalize (l.getD 0 0).toNat = n at *
  simp [nd, List.getD, h]
theorem byte_lt (b : UInt8) : b.toNat < 256 := b.toNat_lt
/-- A text that begins as one, and is as long. -/
def headS (s : ByteArray) : Prop := s.size = 1 + 3 * (s.data.toList.getD 0 0).toNat
/-- Is a text a type's? -/
def isText (s : ByteArray) : Prop := headS s ∧ may (decL s.data.toList) = true ∧ (⟨(enc (decL s.data.toList)).toArray⟩ : ByteArray) = s

theorem enc_first (l : List Nd) : (enc l).getD 0 0 = UInt8.ofNat l.length := encTo_first l l.length
theorem byte_len {l : List Nd} (h : May l) : (UInt8.ofNat l.length).toNat = l.length := by
  have := h.most
  simp
  omega
/-- A type's text tells the type. -/
theorem May.told {l : List Nd} (h : May l) : decL (enc l) = l := by
  unfold decL
  rw [enc_first, byte_len h]
  exact h.back
theorem may_true {l : List Nd} (h : May l) (hm : may l = true) : isText ⟨(enc l).toArray⟩ := by
  refine ⟨?_, ?_, ?_⟩
  · show (enc l).toArray.size = 1 + 3 * ((enc l).toArray.toList.getD 0 0).toNat
    rw [List.size_toArray, List.toList_toArray, enc_first, byte_len h, length_enc]
  · show may (decL (enc l).toArray.toList) = true
    rw [List.toList_toArray, h.told]
    exact hm
  · show (⟨(enc (decL (enc l).toArray.toList)).toArray⟩ : ByteArray) = _
    rw [List.toList_toArray, h.told]
/-- A text that is cut is none. -/
theorem May.cut {l : List Nd} (h : May l) (k : Nat) (hk : k < (enc l).length) : ¬ headS ⟨((enc l).take k).toArray⟩ := by
  intro c
  have c' : ((enc l).take k).toArray.size = 1 + 3 * (((enc l).take k).toArray.toList.getD 0 0).toNat := c
  rw [List.size_toArray, List.toList_toArray, List.length_take] at c'
  by_cases h0 : k = 0
  · subst h0
    simp at c'
  · have e : ((enc l).take k).getD 0 0 = (enc l).getD 0 0 := by
      rw [List.getD_eq_getElem?_getD, List.getD_eq_getElem?_getD, List.getElem?_take, if_pos (by omega)]
    rw [e, enc_first, byte_len h] at c'
    rw [length_enc] at hk c'
    omega
/-- A text that goes on is none. -/
theorem May.more {l : List Nd} (h : May l) (q : List UInt8) (hq : q ≠ []) : ¬ headS ⟨(enc l ++ q).toArray⟩ := by
  intro c
  have c' : (enc l ++ q).toArray.size = 1 + 3 * ((enc l ++ q).toArray.toList.getD 0 0).toNat := c
  have hl := length_enc l
  have h1 : 0 < q.length := List.length_pos_iff.2 hq
  rw [List.size_toArray, List.toList_toArray, List.length_append] at c'
  have e : (enc l ++ q).getD 0 0 = (enc l).getD 0 0 := by
    rw [List.getD_eq_getElem?_getD, List.getD_eq_getElem?_getD, List.getElem?_append_left (by omega)]
  rw [e, enc_first, byte_len h] at c'
  omega
/-- Two types whose nodes have the same kinds and parents: both may be, or neither. -/
structure Like (l m : List Nd) : Prop where
  len : l.length = m.length
  kind : ∀ i, (nd l i).kind = (nd m i).kind
  par : ∀ i, (nd l i).par = (nd m i).par
theorem Like.kidsTo {l m : List Nd} (h : Like l m) (a : Int) (k : Nat) : kidsTo l a k = kidsTo m a k := by
  induction k with
  | zero => rfl
  | succ k ih => rw [Tree.kidsTo, Tree.kidsTo, ih, h.par k]
theorem Like.kids {l m : List Nd} (h : Like l m) (a : Int) : kids l a = kids m a := by
  unfold Tree.kids
  rw [h.len, h.kidsTo]
theorem Like.depth {l m : List Nd} (h : Like l m) (i : Nat) : depth l i = depth m i := by
  unfold Tree.depth
  have : depthF l = depthF m := by
    funext i g
    unfold depthF
    rw [h.par i]
  rw [this]
theorem Like.okTo {l m : List Nd} (h : Like l m) (k : Nat) : okTo l k = okTo m k := by
  induction k with
  | zero => rfl
  | succ k ih =>
    rw [Tree.okTo, Tree.okTo, ih]
    unfold okAt
    rw [h.kind k, h.par k, h.kids, h.depth]
theorem Like.may {l m : List Nd} (h : Like l m) : may l = may m := by
  unfold Tree.may headOk
  rw [h.okTo, h.len, h.par 0]
/-- One node's truth turned. -/
def turned (l : List Nd) (i : Nat) : List Nd := l.set i ⟨(nd l i).kind, (nd l i).par, !(nd l i).null⟩
theorem nd_turned (l : List Nd) (i j : Nat) (hi : i < l.length) : nd (turned l i) j = if j = i then ⟨(nd l i).kind, (nd l i).par, !(nd l i).null⟩ else nd l j := by
  unfold turned
  by_cases e : j = i
  · subst e
    rw [if_pos rfl]
    simp [nd, List.getD, hi]
  · rw [if_neg e]
    unfold nd
    rw [List.getD_eq_getElem?_getD, List.getElem?_set_ne (fun c => e c.symm), ← List.getD_eq_getElem?_getD]
theorem turned_like (l : List Nd) (i : Nat) (hi : i < l.length) : Like (turned l i) l := by
  refine ⟨by simp [turned], fun j => ?_, fun j => ?_⟩
  · rw [nd_turned l i j hi]
    split
    · rename_i e; rw [e]
    · rfl
  · rw [nd_turned l i j hi]
    split
    · rename_i e; rw [e]
    · rfl
/-- Unlike types have unlike texts. -/
theorem May.apart {l m : List Nd} (hl : May l) (hm : May m) (h : l ≠ m) : enc l ≠ enc m := by
  intro c
  apply h
  rw [← hl.told, ← hm.told, c]
theorem turned_ne (l : List Nd) (i : Nat) (hi : i < l.length) : turned l i ≠ l := by
  intro c
  have := nd_turned l i i hi
  rw [c, if_pos rfl] at this
  have h2 : (nd l i).null = !(nd l i).null := by
    have := congrArg Nd.null this
    exact this
  cases hb : (nd l i).null <;> rw [hb] at h2 <;> cases h2
end Go.Proofs.Ytnnbeicfbcgcbaa.Tree
