/-
  Types: every type, every node: the program answers as the document does.
-/
import Derived.Test.YtjjfkgiecndmjaaRows
import Derived.WalkKit
import Derived.ProofKit
import Derived.OpenShut
import Derived.ShutString
import Derived.ChangeOld
import Derived.Below
import Derived.Deep.QuietTactic
import Derived.WalkSmall
import Derived.BigQuiet
import Derived.Deep.RegionWith
import Derived.OwnWalk
import Derived.RegionTactic
import Derived.ChangeAlike
import Derived.SizedLaws
import Derived.Test.YtjjfkgiecndmjaaTree
import Derived.Test.YtjjfkgiecndmjaaOpen
import Derived.Test.YtjjfkgiecndmjaaMem
import Derived.Test.YtjjfkgiecndmjaaUp
import Derived.Test.YtjjfkgiecndmjaaMay
import Derived.Test.YtjjfkgiecndmjaaPro
import Derived.Test.YtjjfkgiecndmjaaLev
import Derived.Test.YtjjfkgiecndmjaaRefMay
import Derived.Test.YtjjfkgiecndmjaaRefPro
import Derived.Test.YtjjfkgiecndmjaaHelp
import Derived.Test.YtjjfkgiecndmjaaCopy
import Derived.Test.YtjjfkgiecndmjaaAwake
import Derived.Test.YtjjfkgiecndmjaaEnv
namespace Go.Proofs.Ytjjfkgiecndmjaa.types
open Go.ChangeShapes Go.WideShapes Go.ChangeAt Go.RowKit
open Go.ChangeMaps (open_string shut_string)
set_option linter.unusedVariables false

theorem own : ownKnob Try.prog.godebug = none := by kernel_rfl
theorem laidOut : laidOutB Try.prog = true := by kernel_rfl

open Tree
theorem co_later {w wx : World} {a : Option Addr} {cap : Nat} {l : List Nd} (h : a = none ∧ l = [] ∧ cap = 0 ∨ ∃ x, a = some x ∧ Lies w x l) (hb : Below w.heap.size w wx) : a = none ∧ l = [] ∧ cap = 0 ∨ ∃ x, a = some x ∧ Lies wx x l :=
  h.imp id fun ⟨x, e, hl⟩ => ⟨x, e, hl.later hb⟩
theorem isI_lt {w : World} {b : Nat} {o : Option Addr} {p : List Nat} (h : IsI w b o p) (hp : p ≠ []) {g : Nat} (hg : o = some ⟨g, 0, none⟩) : g < w.heap.size := by
  obtain ⟨g', e, _, hr⟩ := h.resolve_left hp
  have hl : 0 < p.length := by
    cases p with
    | nil => exact absurd rfl hp
    | cons _ _ => exact Nat.succ_pos _
  have := World.block_lt_of_cell? _ _ (hr.cell 0 hl)
  rw [hg] at e
  injection e with e
  injection e with e
  rw [e]
  exact this
theorem isI_ge {w : World} {b : Nat} {o : Option Addr} {p : List Nat} (h : IsI w b o p) (hp : p ≠ []) {g : Nat} (hg : o = some ⟨g, 0, none⟩) : b ≤ g := by
  obtain ⟨g', e, hb, _⟩ := h.resolve_left hp
  rw [hg] at e
  injection e with e
  injection e with e
  rw [e]
  exact hb
/-- What is known in each world behind the calls. -/
structure Env (w3 : World) (b3 b4 b5 b6 : Nat) (o1 o2 o3 o4 : Option Addr) (p q : List Nat) (w : World) : Prop where
  blw : Below w3.heap.size w3 w
  r1 : IsI w b3 o1 p
  r2 : IsI w b4 o2 p
  r3 : IsI w b5 o3 q
  r4 : IsI w b6 o4 q
  r35 : w3.heap.size ≤ b5
theorem Env.later {w3 : World} {b3 b4 b5 b6 : Nat} {o1 o2 o3 o4 : Option Addr} {p q : List Nat} {w w' : World} (h : Env w3 b3 b4 b5 b6 o1 o2 o3 o4 p q w) (hb : Below w.heap.size w w') : Env w3 b3 b4 b5 b6 o1 o2 o3 o4 p q w' :=
  ⟨bel h.blw hb, h.r1.later hb, h.r2.later hb, h.r3.later hb, h.r4.later hb, h.r35⟩
/-- A world of that kind. -/
structure EW (w3 : World) (b3 b4 b5 b6 : Nat) (o1 o2 o3 o4 : Option Addr) (p q : List Nat) where
  w : World
  ok : Env w3 b3 b4 b5 b6 o1 o2 o3 o4 p q w
theorem wp_region_class {P : Program} {C : World → Prop} {id : Nat} {Q : Exit → Act → World → Prop} {a : Act} {w : World} {l : List Oper} (hm : P.follows .mixedOrders = true) (hB : Region.lexB .any l.toArray = true) (hC : C w.drew)
    (h : wpQuiet P l.toArray C (fun a' => ∀ w', C w' → Q .normal a' w') l a) : (Code.region id l.toArray true).wp P Q a w :=
  wp_region_quiet (C := C) hm hB hC (by simpa using h)
set_option maxRecDepth 20000 in
set_option maxHeartbeats 4000000 in
theorem walk (a0 : Option Addr) (len0 cap0 : Nat) (z0 : List Tree.Nd) (a1 : Int) (w : World) (w0 : Tree.IsNodes w a0 len0 cap0 z0) (s0 : cap0 * 24 ≤ 140737488351232) (w1 : (Lit.int .i64 a1).wf = true) :
    Calls Try.prog 3 #[.agg #[.slice a0 len0 cap0], .int .i64 a1] w fun e w' => e = .returned (.bool true) ∧ Below w.heap.size w w' := by
  obtain ⟨l, rfl, hT, hlc, hco⟩ := isT_of w0
  have hlen : l.length * 24 ≤ 140737488355328 := by omega
  have HCO : Hid _ := hco
  have HT : Hid (IsT w a0 l) := hT
  clear w0 hco hT
  obtain ⟨hk8, hkj⟩ := kidsA_le l a1
  obtain ⟨hv8, hvj⟩ := leavesA_le l
  go_enter Try.func3, Try.ntmps3
  go_wp2_with fail
  obtain ⟨wb, eb, hsb, hcb, hbb⟩ := boxed w (.slice a0 l.length cap0) 24
  rw [eb]
  clear eb
  refine (copyA (co_later HCO.out hbb) hlen).mono ?_
  rintro e w2 ⟨o, c, rfl, hU, hb2⟩
  have hcb2 := cell_later hb2 hcb
  go_wp2_with fail
  obtain ⟨w3, e3, hs3, hc3, hb3⟩ := boxed w2 (.slice o l.length c) 24
  rw [e3]
  have hcb3 := cell_later hb3 hcb2
  have hU3 := hU.later hb3
  have hB3 : Below w.heap.size w w3 := bel (bel hbb hb2) hb3
  have hT3 := HT.out.later hB3
  clear e3 hcb hcb2 hU hbb hb2 hb3 HT HCO
  generalize w2.heap.size = u2 at *
  refine (kidsP o c l a1 w3 hU3).mono ?_
  rintro e w4 ⟨o1, c1, rfl, hown1, hb4⟩
  have hr1 := own_ints hown1
  have hcb4 := cell_later hb4 hcb3
  have hc4 := cell_later hb4 hc3
  clear hown1
  go_wp2_with fail
  refine (kidsR a0 cap0 l a1 w4 (hT3.later hb4)).mono ?_
  rintro e w5 ⟨o2, c2, rfl, hown2, hb5⟩
  have hr2 := own_ints hown2
  have hB5 := bel hb4 hb5
  have hr15 := hr1.later hb5
  have hcb5 := cell_later hB5 hcb3
  have hc5 := cell_later hB5 hc3
  clear hown2 hcb4 hc4
  go_wp2_with fail
  refine (leavesP o c l w5 (hU3.later hB5)).mono ?_
  rintro e w6 ⟨o3, c3', rfl, hown3, hb6⟩
  have hr3 := own_ints hown3
  have hB6 := bel hB5 hb6
  have hcb6 := cell_later hB6 hcb3
  have hc6 := cell_later hB6 hc3
  have hap : Hid (∀ g g', kidsA l a1 ≠ [] → leavesA l ≠ [] → o1 = some ⟨g, 0, none⟩ → o3 = some ⟨g', 0, none⟩ → g' ≠ g) := by
    intro g g' hp hq e e'
    have x1 := isI_lt hr1 hp e
    have x2 := isI_ge hr3 hq e'
    have x3 := hb5.size
    omega
  have hr16 := hr15.later hb6
  have hr26 := hr2.later hb6
  clear hown3 hcb5 hc5 hr1 hr15 hr2 hb4 hb5 hb6
  go_wp2_with fail
  refine (leavesR a0 cap0 l w6 (hT3.later hB6)).mono ?_
  rintro e w7 ⟨o4, c4', rfl, hown4, hb7⟩
  have hr4 := own_ints hown4
  have E7 : Env w3 _ _ _ _ o1 o2 o3 o4 (kidsA l a1) (leavesA l) w7 := ⟨bel hB6 hb7, hr16.later hb7, hr26.later hb7, hr3.later hb7, hr4, hB5.size⟩
  clear hown4 hcb6 hc6 hr16 hr26 hr3 hr4 hB6 hB5
  generalize w4.heap.size = b4 at *
  generalize w5.heap.size = b5 at *
  generalize w6.heap.size = b6 at *
  generalize kidsA l a1 = p at *
  generalize leavesA l = q at *
  have hcb7 := cell_later E7.blw hcb3
  have hc7 := cell_later E7.blw hc3
  go_wp2_with fail
  refine (levelsP o c l a1 w7 (hU3.later E7.blw)).mono ?_
  rintro e w8 ⟨rfl, hb8⟩
  have E8 := E7.later hb8
  clear E7 hb8 hcb7 hc7
  have hcb8 := cell_later E8.blw hcb3
  have hc8 := cell_later E8.blw hc3
  go_wp2_with fail
  refine (levelsR a0 cap0 l a1 w8 (hT3.later E8.blw)).mono ?_
  rintro e w9 ⟨rfl, hb9⟩
  have E9 := E8.later hb9
  clear E8 hb9 hcb8 hc8
  generalize errA (hasB l a1) = ek at *
  generalize errA (may l) = el at *
  generalize repA l a1 = rr at *
  generalize dfnA l a1 = dd at *
  go_wp2_with fail
  have E : Env w3 w3.heap.size b4 b5 b6 o1 o2 o3 o4 p q w9.drew := E9.later (Below.refl w9.heap.size w9).drew
  clear E9 hb7
  generalize hml : may l = ml
  have HML : Hid (may l = ml) := hml
  clear hml
  have hcbx : ∀ s : EW w3 w3.heap.size b4 b5 b6 o1 o2 o3 o4 p q, s.w.cell? ⟨w.heap.size, 0, none⟩ = some (.slice a0 l.length cap0) := fun s => cell_later s.ok.blw hcb3
  have hcx : ∀ s : EW w3 w3.heap.size b4 b5 b6 o1 o2 o3 o4 p q, s.w.cell? ⟨u2, 0, none⟩ = some (.slice o l.length c) := fun s => cell_later s.ok.blw hc3
  have hne : Nonempty (EW w3 w3.heap.size b4 b5 b6 o1 o2 o3 o4 p q) := ⟨⟨w9.drew, E⟩⟩
  refine wp_region_class (C := fun w' => ∃ s : EW w3 w3.heap.size b4 b5 b6 o1 o2 o3 o4 p q, w' = s.w) (by kernel_rfl) (by kernel_rfl) ⟨⟨w9.drew, E⟩, rfl⟩ ?_
  repeat (go_big_quiet_step (first | (go_at_call_of 16 (p.length); rename_i s; refine (sameInts o1 o2 c1 c2 _ _ p s.w hk8 s.ok.r1 s.ok.r2).mono ?_; rintro e wx ⟨rfl, hbx⟩; exact ⟨rfl, ⟨wx, s.ok.later hbx⟩, rfl⟩) | (go_at_call_of 16 (q.length); rename_i s; refine (sameInts o3 o4 c3' c4' _ _ q s.w hv8 s.ok.r3 s.ok.r4).mono ?_; rintro e wx ⟨rfl, hbx⟩; exact ⟨rfl, ⟨wx, s.ok.later hbx⟩, rfl⟩) | (go_at_call 17; rename_i s; refine (num _ s.w).mono ?_; rintro e wx ⟨rfl, rfl⟩; exact ⟨rfl, s, rfl⟩) | (go_at_call 18; rename_i s; refine (mayC o c l s.w (hU3.later s.ok.blw)).mono ?_; rw [HML.out]; rintro e wx ⟨rfl, hbx⟩; exact ⟨rfl, ⟨wx, s.ok.later hbx⟩, rfl⟩) | (go_at_call 19; rename_i s; refine (refMay a0 cap0 l s.w (hT3.later s.ok.blw)).mono ?_; rw [HML.out]; rintro e wx ⟨rfl, hbx⟩; exact ⟨rfl, ⟨wx, s.ok.later hbx⟩, rfl⟩)))
  refine wpQuiet_nil ?_
  intro _ hw'
  obtain ⟨s, hw''⟩ := hw'
  subst hw''
  clear hcbx hcx hne E
  obtain ⟨wA, E⟩ := s
  go_wp2_with fail
  refine (spoil o1 c1 _ p wA hk8 hkj E.r1).mono ?_
  rintro e wB ⟨rfl, hbB, hoB⟩
  have hB : Below w3.heap.size w3 wB := E.blw.trans hbB
  have hr3 : IsI wB b5 o3 q := by
    by_cases hq : q = []
    · exact .inl hq
    · exact hoB _ _ _ E.r3 (fun g g' hp e e' => hap.out g g' hp hq e e')
  have hr3 : Hid (IsI wB b5 o3 q) := hr3
  have H35 := E.r35
  clear E hbB hoB
  go_wp2_with fail
  refine (spoil o3 c3' _ q wB hv8 hvj hr3.out).mono ?_
  rintro e wC ⟨rfl, hbC, _⟩
  have hC : Below w3.heap.size w3 wC := hB.trans (hbC.mono H35)
  have hcbC := cell_later hC hcb3
  have hcC := cell_later hC hc3
  clear hB hbC hr3
  go_wp2_with fail
  refine (sameType o a0 c cap0 l wC (hU3.later hC) (hT3.later hC)).mono ?_
  rintro e wD ⟨rfl, hbD⟩
  go_wp2_with fail
  refine (awake wD).mono ?_
  rintro e wE ⟨rfl, hbE⟩
  go_wp2
  go_ret
  exact ⟨rfl, bel hB3 (bel (bel hC hbD) hbE)⟩

set_option maxRecDepth 100000 in
theorem lifted (os : Os) (started : os.Started) (H : Type) (enc : TypeId × Value → H) :
    ReturnsInHanded {} Try.checked os 3 .any (Rows.typesSpec.pre6 enc Try.prog Try.f3 Rows.typesRow.domain false) (Rows.typesSpec.post enc Try.prog Try.f3 false true false false) := by
  refine returnsInHanded_of_change_sized (C := Try.checked) own started (by kernel_rfl) Try.func3
    (ChangeSpec.witness6 (enc := enc) (C := Try.checked) false ⟨#[], #[.agg #[.slice none 0 0], .int .i64 0], []⟩ 8 (by kernel_rfl) (by kernel_rfl) (by kernel_rfl) (by kernel_rfl)) ?_
  intro W base args ds gs before hval0 hW hcnd hsz0 _
  have hsz : (DataW.weightsEach Try.prog (Try.f3.params.toList ++ Rows.typesSpec.plain.varTypes Try.prog) (ds ++ gs)).all (· ≤ reachBytes) = true := hsz0
  clear hsz0
  have hval : ∀ (j : Nat) t v, Try.f3.params[j]? = some t → args[j]? = some v → Value.okWide Try.prog W .any base t v := hval0
  have hW' := hW
  obtain ⟨p, q, hA0, hV, rfl, hfz, hnd⟩ := hW
  have hA : DataW.TrodAll enc Try.prog W 0 (fun _ => true) true Try.f3.params.toList args.toList ds p := hA0
  rw [Try.params3] at hA hval hsz
  obtain ⟨v0, vs0, d0, ds0, p0, q0, hargs, rfl, rfl, h0, r0⟩ := trodAll_cons hA
  obtain ⟨v1, vs1, d1, ds1, p1, q1, rfl, rfl, rfl, h1, r1⟩ := trodAll_cons r0
  obtain ⟨rfl, rfl, rfl⟩ := trodAll_nil r1
  obtain rfl : args = #[v0, v1] := by cases args; simp_all
  obtain ⟨rfl, rfl⟩ := trodVars_none hV
  have k0 := h0
  have lt0 : ∀ x ∈ p0, x.block < W.heap.size := by obtain ⟨m, hm⟩ := k0; exact DataW.trod_lt m _ _ _ hm
  obtain ⟨a0, len0, cap0, z0, rfl, w0, y0, dy0, hy0⟩ := Tree.open_type Try.underlying24 rfl rfl (by kernel_rfl) (by kernel_rfl) Try.underlying22 Try.underlying46 (by kernel_rfl) rfl rfl rfl (by kernel_rfl) (by kernel_rfl) (by kernel_rfl) Try.underlying3 Try.underlying3 Try.underlying4 (hval 0 24 v0 rfl rfl) h0
  have s0 : cap0 * 24 ≤ 140737488351232 := by
    have := Tree.sized_type hsz (j := 0) rfl (congrArg some dy0) Try.underlying24 Try.underlying22 hy0
    rw [show Try.prog.bytesOf 46 = 24 from by kernel_rfl] at this
    unfold reachBytes at this
    omega
  obtain ⟨a1, rfl, rfl, rfl, w1⟩ := open_int Try.underlying3 (hval 1 3 v1 rfl rfl) h1
  clear hA0 hval0
  refine (walk a0 len0 cap0 z0 a1 W w0 s0 w1).mono fun e W' ⟨he, bel⟩ => ?_
  subst he
  exact ⟨_, rfl, _, _, _, [], _, [], hW', trodAll_mk1 (shut_bool Try.underlying4 _), (trodAll_cons_mk (Below.trod laidOut (by kernel_rfl) (of_decide_eq_true (by kernel_rfl)) k0 bel lt0) (trodAll_cons_mk (shut_int Try.underlying3 w1) trodAll_mk0)), rfl, bel.frame _, fun h => by cases h⟩

theorem over : Rows.typesRow.holds Try.pinned (OpenSpec.ofChange Rows.typesSpec) :=
  OpenClaim.holds_of_wide 3 Try.f3 rfl rfl rfl rfl rfl rfl rfl ⟨rfl, rfl, rfl, rfl, rfl⟩ rfl rfl rfl rfl rfl (by kernel_rfl) Try.func3 (by kernel_rfl)
    (of_decide_eq_true (by kernel_rfl)) (by unfold Func.isWrapper; first | (rw [if_pos (by decide +kernel)]; kernel_rfl) | (rw [if_neg (by decide +kernel)]; exact ⟨rfl, rfl⟩))
    (fun os started H enc _ => lifted os started H enc)

end Go.Proofs.Ytjjfkgiecndmjaa.types
namespace Go.Proofs.Ytjjfkgiecndmjaa
theorem types_holds : Rows.TypesSaid := types.over
#print axioms types_holds
end Go.Proofs.Ytjjfkgiecndmjaa
