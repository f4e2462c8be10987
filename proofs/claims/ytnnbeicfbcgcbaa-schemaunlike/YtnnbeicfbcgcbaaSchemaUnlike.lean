/-
  SchemaUnlike: a type with one truth turned has another text, as long.
-/
import Derived.Test.YtnnbeicfbcgcbaaRows
import Derived.WalkKit
import Derived.ProofKit
import Derived.OpenShut
import Derived.ShutString
import Derived.ChangeOld
import Derived.Below
import Derived.Deep.QuietTactic
import Derived.WalkSmall
import Derived.BigQuiet
import Derived.Deep.RegionWith
import Derived.OwnWalk
import Derived.RegionTactic
import Derived.ChangeAlike
import Derived.Deep.CutBlock
import Derived.Maps.AppendAt
import Derived.OneCell
import Derived.SizedLaws
import Derived.Test.YtnnbeicfbcgcbaaTree
import Derived.Test.YtnnbeicfbcgcbaaText
import Derived.Test.YtnnbeicfbcgcbaaOpen
import Derived.Test.YtnnbeicfbcgcbaaMem
import Derived.Test.YtnnbeicfbcgcbaaUp
import Derived.Test.YtnnbeicfbcgcbaaMay
import Derived.Test.YtnnbeicfbcgcbaaPro
import Derived.Test.YtnnbeicfbcgcbaaLev
import Derived.Test.YtnnbeicfbcgcbaaRefMay
import Derived.Test.YtnnbeicfbcgcbaaHelp
import Derived.Test.YtnnbeicfbcgcbaaCopy
import Derived.Test.YtnnbeicfbcgcbaaEnv
import Derived.Test.YtnnbeicfbcgcbaaPut
import Derived.Test.YtnnbeicfbcgcbaaTold
import Derived.Test.YtnnbeicfbcgcbaaGet
import Derived.Test.YtnnbeicfbcgcbaaGetAny
import Derived.Test.YtnnbeicfbcgcbaaSPut
import Derived.Test.YtnnbeicfbcgcbaaSGet
import Derived.Test.YtnnbeicfbcgcbaaSpoil
import Derived.Test.YtnnbeicfbcgcbaaAwake
import Derived.Test.YtnnbeicfbcgcbaaBoth
import Derived.Test.YtnnbeicfbcgcbaaMask
namespace Go.Proofs.Ytnnbeicfbcgcbaa.schemaUnlike
open Go.ChangeShapes Go.WideShapes Go.ChangeAt Go.RowKit
open Go.ChangeMaps (open_string shut_string)
set_option linter.unusedVariables false

theorem own : ownKnob Try.prog.godebug = none := by kernel_rfl
theorem laidOut : laidOutB Try.prog = true := by kernel_rfl

open Tree
theorem cells_turned (l : List Nd) : ∀ n, n < l.length → (cellsN l).set (n * 3 + 2) (.bool (!(nd l n).null)) = cellsN (turned l n) := by
  induction l with
  | nil => intro n hn; simp at hn
  | cons d l ih =>
    intro n hn
    have e : ∀ (d : Nd) (l : List Nd), cellsN (d :: l) = .int .i64 d.kind :: .int .i64 d.par :: .bool d.null :: cellsN l := fun _ _ => rfl
    cases n with
    | zero => rfl
    | succ n =>
      have hn' : n < l.length := by simpa using hn
      have h2 : turned (d :: l) (n + 1) = d :: turned l n := by unfold turned; rfl
      rw [h2, e, e, show (n + 1) * 3 + 2 = (n * 3 + 2) + 3 from by omega]
      show _ :: _ :: _ :: (cellsN l).set (n * 3 + 2) _ = _
      rw [← ih n hn']
      rfl
theorem copyO {w : World} {x : Addr} {cap : Nat} {l : List Nd} (h : Lies w x l) (h1 : 1 ≤ l.length) (hlen : l.length * 24 ≤ 140737488355328) :
    Calls Try.prog 8 #[.agg #[.slice (some x) l.length cap]] w fun r w' => ∃ g c, r = .returned (.agg #[.slice (some ⟨g, 0, none⟩) l.length c]) ∧ w'.ownsRow w.heap.size 41 3 (.slice (some ⟨g, 0, none⟩) l.length c) l.length (cellsN l) ∧ Below w.heap.size w w' := by
  refine (copyT x cap l w h hlen).mono ?_
  rintro r w' ⟨o, c, rfl, hown, hb⟩
  rcases hown.2 with ⟨_, h1'⟩ | ⟨g, cap, cur, h0, _⟩
  · omega
  · injection h0 with h2 h3 h4
    subst h2
    exact ⟨g, c, rfl, hown, hb⟩
theorem turned_len (l : List Nd) (n : Nat) : (turned l n).length = l.length := by simp [turned]
theorem bytes_ne {u s : ByteArray} (h : u ≠ s) : (u.toList == s.toList) = false := texts_part h
set_option maxRecDepth 20000 in
set_option maxHeartbeats 4000000 in
theorem walk (a0 : Option Addr) (len0 cap0 : Nat) (z0 : List Tree.Nd) (a1 : Int) (w : World) (w0 : Tree.IsNodes w a0 len0 cap0 z0) (s0 : cap0 * 24 ≤ 140737488351232) (w1 : (Lit.int .i64 a1).wf = true) :
    Calls Try.prog 6 #[.agg #[.slice a0 len0 cap0], .int .i64 a1] w fun e w' => e = .returned (.bool true) ∧ Below w.heap.size w w' := by
  obtain ⟨l, rfl, hT, hlc, hco⟩ := isT_of w0
  have hlen : l.length * 24 ≤ 140737488355328 := by omega
  obtain ⟨A, E, hA⟩ := putA_some l
  have HA : Hid (PutA l A E) := hA
  have hA25 := hA.few
  have HT : Hid (IsT w a0 l) := hT
  obtain ⟨wb, eb, hsb, hcb, hbb⟩ := boxed w (.slice a0 l.length cap0) 24
  clear w0 hco hT hA
  go_enter Try.func6, Try.ntmps6
  go_wp2_with fail
  clear eb
  refine (awake wb).mono ?_
  rintro e w2 ⟨rfl, hb2⟩
  have hc2 := cell_later hb2 hcb
  have hB2 := bel hbb hb2
  have hT2 := HT.out.later hB2
  clear hcb hbb hb2 HT
  go_wp2_with fail
  refine (sputR a0 cap0 l A E HA w2 hT2).mono ?_
  rintro e w3 ⟨rfl, hb3⟩
  have hc3 := cell_later hb3 hc2
  have hT3 := hT2.later hb3
  have hB3 := bel hB2 hb3
  clear hc2 hT2 hB2 hb3
  go_wp2_with fail
  refine (num _ _).mono ?_
  rintro e wx ⟨rfl, rfl⟩
  cases hm : may l
  · obtain ⟨rfl, rfl⟩ := HA.out.2 hm
    clear hm
    go_wp2
    go_ret
    exact ⟨rfl, hB3⟩
  · obtain rfl := (HA.out.1 hm).2
    have HM : Hid (may l = true) := hm
    have h1 := (may_of hm).one
    have h8 := (may_of hm).most
    obtain ⟨x, rfl, hl⟩ := hT3.some h1
    have HL : Hid (Lies wx x l) := hl
    obtain ⟨k, hk, hk0, hk1⟩ := rest a1 (l.length : Int) (by omega)
    obtain ⟨n, rfl⟩ : ∃ n : Nat, k = (n : Int) := ⟨k.toNat, by omega⟩
    have hn : n < l.length := by omega
    clear hm hT3 hl
    have hne : ((l.length : Int) == 0) = false := beq_false_of_ne (by omega)
    go_wp2_with fail
    refine (copyO HL.out h1 hlen).mono ?_
    rintro e w4 ⟨g, c, rfl, hown, hb4⟩
    obtain ⟨w5, e5, hs5, hc5, hb5⟩ := boxed w4 (.slice (some ⟨g, 0, none⟩) l.length c) 24
    have hown5 := own_later hown hb5
    have hB5 : Below wx.heap.size wx w5 := bel hb4 hb5
    obtain ⟨b, HBN⟩ : ∃ b, Hid ((nd l n).null = b) := ⟨_, rfl⟩
    have hcl : w5.cell? ⟨g, n * 3 + 2, none⟩ = some (.bool b) := by
      have := hown5.cells rfl _ _ (cellsN_at l n hn).2.2
      rw [HBN.out] at this
      simpa [Addr.add] using this
    have hfr : w5.frozen? ⟨g, n * 3 + 2, none⟩ = false := hown5.frozenAt _
    have hgb : g ≠ w4.heap.size := by have := (hown.lt g rfl).2; omega
    have hg1 := (hown.lt g rfl).1
    have HO : Hid (w5.ownsRow wx.heap.size 41 3 (.slice (some ⟨g, 0, none⟩) l.length c) l.length (cellsN l)) := hown5
    obtain ⟨A2, E2, hA2⟩ := putA_some (turned l n)
    have hm2 : may (turned l n) = true := by rw [(turned_like l n hn).may]; exact HM.out
    obtain rfl := (hA2.1 hm2).2
    have HA2 : Hid (PutA (turned l n) A2 0) := hA2
    have hne2 : A ≠ A2 := by
      rw [(HA.out.1 HM.out).1, (hA2.1 hm2).1]
      intro c
      have c' : enc l = enc (turned l n) := by
        have := congrArg (fun s : ByteArray => s.data.toList) c
        simpa using this
      exact (may_of HM.out).apart (may_of hm2) (turned_ne l n hn).symm c'
    have q1 := texts_part hne2
    have q2 := texts_part hne2.symm
    have q3 : ((A.size : Int) == (A2.size : Int)) = true := by
      have : A.size = A2.size := by rw [(HA.out.1 HM.out).1, (hA2.1 hm2).1, text_size, text_size, length_enc, length_enc, turned_len]
      rw [this]
      exact beq_self_eq_true _
    have HNE : Hid (A ≠ A2) := hne2
    clear hown hown5 hb4 hb5 hA2 hm2 hne2
    go_wp2_with fail
    clear e5
    go_region
    go_wp2_with fail
    have hT6 : IsT (w5.setCell { block := g, off := n * 3 + 2 } (Value.bool !b)).drew (some ⟨g, 0, none⟩) (turned l n) := by
      have := (HO.out.stored (n * 3 + 2) (.bool !b)).1
      rw [← HBN.out, cells_turned l n hn] at this
      have h3 : (w5.setCell { block := g, off := n * 3 + 2 } (Value.bool !b)).drew.ownsRow wx.heap.size 41 3 (.slice (some ⟨g, 0, none⟩) (turned l n).length c) (turned l n).length (cellsN (turned l n)) := by
        rw [turned_len, ← HBN.out]
        exact this.drew
      exact own_lies h3
    have hB6 : Below w.heap.size w (w5.setCell { block := g, off := n * 3 + 2 } (Value.bool !b)).drew := bel hB3 (hB5.setCell hg1 _).drew
    have hc := sputR (some ⟨g, 0, none⟩) c (turned l n) A2 0 HA2 _ hT6
    rw [turned_len] at hc
    clear hcl hfr hc5 HO hc3
    generalize (w5.setCell { block := g, off := n * 3 + 2 } (Value.bool !b)).drew = w6 at *
    refine hc.mono ?_
    rintro e w7 ⟨rfl, hb7⟩
    clear hc hT6
    go_wp2_with fail
    refine (num _ _).mono ?_
    rintro e wy ⟨rfl, rfl⟩
    go_wp2
    go_ret
    exact ⟨rfl, bel hB6 hb7⟩

set_option maxRecDepth 100000 in
theorem lifted (os : Os) (started : os.Started) (H : Type) (enc : TypeId × Value → H) :
    ReturnsInHanded {} Try.checked os 6 .any (Rows.schemaUnlikeSpec.pre6 enc Try.prog Try.f6 Rows.schemaUnlikeRow.domain false) (Rows.schemaUnlikeSpec.post enc Try.prog Try.f6 false true false false) := by
  refine returnsInHanded_of_change_sized (C := Try.checked) own started (by kernel_rfl) Try.func6
    (ChangeSpec.witness6 (enc := enc) (C := Try.checked) false ⟨#[], #[.agg #[.slice none 0 0], .int .i64 0], []⟩ 8 (by kernel_rfl) (by kernel_rfl) (by kernel_rfl) (by kernel_rfl)) ?_
  intro W base args ds gs before hval0 hW hcnd hsz0 _
  have hsz : (DataW.weightsEach Try.prog (Try.f6.params.toList ++ Rows.schemaUnlikeSpec.plain.varTypes Try.prog) (ds ++ gs)).all (· ≤ reachBytes) = true := hsz0
  clear hsz0
  have hval : ∀ (j : Nat) t v, Try.f6.params[j]? = some t → args[j]? = some v → Value.okWide Try.prog W .any base t v := hval0
  have hW' := hW
  obtain ⟨p, q, hA0, hV, rfl, hfz, hnd⟩ := hW
  have hA : DataW.TrodAll enc Try.prog W 0 (fun _ => true) true Try.f6.params.toList args.toList ds p := hA0
  rw [Try.params6] at hA hval hsz
  obtain ⟨v0, vs0, d0, ds0, p0, q0, hargs, rfl, rfl, h0, r0⟩ := trodAll_cons hA
  obtain ⟨v1, vs1, d1, ds1, p1, q1, rfl, rfl, rfl, h1, r1⟩ := trodAll_cons r0
  obtain ⟨rfl, rfl, rfl⟩ := trodAll_nil r1
  obtain rfl : args = #[v0, v1] := by cases args; simp_all
  obtain ⟨rfl, rfl⟩ := trodVars_none hV
  have k0 := h0
  have lt0 : ∀ x ∈ p0, x.block < W.heap.size := by obtain ⟨m, hm⟩ := k0; exact DataW.trod_lt m _ _ _ hm
  obtain ⟨a0, len0, cap0, z0, rfl, w0, y0, dy0, hy0⟩ := Tree.open_type Try.underlying24 rfl rfl (by kernel_rfl) (by kernel_rfl) Try.underlying22 Try.underlying41 (by kernel_rfl) rfl rfl rfl (by kernel_rfl) (by kernel_rfl) (by kernel_rfl) Try.underlying3 Try.underlying3 Try.underlying4 (hval 0 24 v0 rfl rfl) h0
  have s0 : cap0 * 24 ≤ 140737488351232 := by
    have := Tree.sized_type hsz (j := 0) rfl (congrArg some dy0) Try.underlying24 Try.underlying22 hy0
    rw [show Try.prog.bytesOf 41 = 24 from by kernel_rfl] at this
    unfold reachBytes at this
    omega
  obtain ⟨a1, rfl, rfl, rfl, w1⟩ := open_int Try.underlying3 (hval 1 3 v1 rfl rfl) h1
  clear hA0 hval0
  refine (walk a0 len0 cap0 z0 a1 W w0 s0 w1).mono fun e W' ⟨he, bel⟩ => ?_
  subst he
  exact ⟨_, rfl, _, _, _, [], _, [], hW', trodAll_mk1 (shut_bool Try.underlying4 _), (trodAll_cons_mk (Below.trod laidOut (by kernel_rfl) (of_decide_eq_true (by kernel_rfl)) k0 bel lt0) (trodAll_cons_mk (shut_int Try.underlying3 w1) trodAll_mk0)), rfl, bel.frame _, fun h => by cases h⟩

theorem over : Rows.schemaUnlikeRow.holds Try.pinned (OpenSpec.ofChange Rows.schemaUnlikeSpec) :=
  OpenClaim.holds_of_wide 6 Try.f6 rfl rfl rfl rfl rfl rfl rfl ⟨rfl, rfl, rfl, rfl, rfl⟩ rfl rfl rfl rfl rfl (by kernel_rfl) Try.func6 (by kernel_rfl)
    (of_decide_eq_true (by kernel_rfl)) (by unfold Func.isWrapper; first | (rw [if_pos (by decide +kernel)]; kernel_rfl) | (rw [if_neg (by decide +kernel)]; exact ⟨rfl, rfl⟩))
    (fun os started H enc _ => lifted os started H enc)

end Go.Proofs.Ytnnbeicfbcgcbaa.schemaUnlike
namespace Go.Proofs.Ytnnbeicfbcgcbaa
theorem schemaUnlike_holds : Rows.SchemaUnlikeSaid := schemaUnlike.over
#print axioms schemaUnlike_holds
end Go.Proofs.Ytnnbeicfbcgcbaa
