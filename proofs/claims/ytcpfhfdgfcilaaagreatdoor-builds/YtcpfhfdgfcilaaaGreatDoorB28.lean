/-
  Several texts in one: What a kid has of rows; kids' arrays, by the program's build: contracts.
-/
import Derived.Test.YtcpfhfdgfcilaaaGreatDoorB26
import Derived.Test.YtcpfhfdgfcilaaaGreatDoorB27
import Derived.Maps.AppendAt
import Derived.OneCell
import Derived.Laws.OwnMore
import Derived.Deep.CutRange
import Derived.Deep.CutBlock
set_option linter.unusedVariables false
set_option linter.unusedSimpArgs false
namespace Go.Proofs.YtcpfhfdgfcilaaaGreatDoor.Arr
open Go.ChangeShapes Go.WideShapes Go.ChangeAt Go.RowKit
open Tree Val Sums

/-- The rows' parts, as texts. -/
def rowsP (ns : List Nd) (n : Nat) (ss : List ByteArray) : List (List ByteArray) := ss.map fun s => (partsB ns n (bl s)).map mk
theorem rowsP_at (ns : List Nd) (n : Nat) (ss : List ByteArray) {k : Nat} (h : k < ss.length) : (rowsP ns n ss).getD k [] = (partsB ns n (bl (ss.getD k ByteArray.empty))).map mk := by
  unfold rowsP
  rw [List.getD_eq_getElem?_getD, List.getElem?_map, List.getElem?_eq_getElem h, List.getD_eq_getElem?_getD, List.getElem?_eq_getElem h]
  rfl
theorem rowsP_flat {ns : List Nd} (hm : May ns) {g n : Nat} (hn : n < ns.length) (hk : (nd ns n).kind = 3) {ss : List ByteArray} (h : AllFit ns (g + 1) n (ss.map bl)) (j : Nat) : (rowsP ns n ss).flatten = (kidRows ns n (ss.map bl) j).map mk := by
  rw [kid3_parts hm hn hk h j]
  unfold rowsP
  rw [List.map_flatten, List.map_map, List.map_map]
  rfl
theorem kids4_rows {ns : List Nd} (hm : May ns) {g n : Nat} (hn : n < ns.length) (hk : (nd ns n).kind = 4) {ss : List ByteArray} (h : AllFit ns (g + 1) n (ss.map bl)) {j : Nat} (hj : j < (kids ns n).length) : (kidRows ns n (ss.map bl) j).map mk = (List.range ss.length).map fun k => ((partsB ns n (bl (ss.getD k ByteArray.empty))).map mk).getD j ByteArray.empty := by
  rw [kid4_parts hm hn hk h hj]
  refine List.ext_getElem? fun k => ?_
  by_cases hl : k < ss.length
  · have hfit : fitsF ns (g + 1) n (mk (bl (ss.getD k ByteArray.empty))) = true := by rw [show mk (bl (ss.getD k ByteArray.empty)) = ss.getD k ByteArray.empty from mk_of _]; exact all_at h hl
    have hp := (pb_struct hm hn hk hfit).1
    simp only [List.getElem?_map, List.getElem?_range hl, List.getElem?_eq_getElem hl, Option.map_some]
    have e : ss.getD k ByteArray.empty = ss[k] := by rw [List.getD_eq_getElem?_getD, List.getElem?_eq_getElem hl]; rfl
    rw [e] at hp ⊢
    congr 1
    rw [List.getD_eq_getElem?_getD, List.getD_eq_getElem?_getD, List.getElem?_map, List.getElem?_eq_getElem (by omega)]
    rfl
  · rw [List.getElem?_eq_none (by simp; omega), List.getElem?_eq_none (by simp; omega)]
set_option maxRecDepth 20000 in
set_option maxHeartbeats 1600000 in
theorem belowW {ns : List Nd} {g n : Nat} (oT : Option Addr) (capT : Nat) (ss : List ByteArray) (i : Nat) (oR : Option Addr) (cR : Nat) (w : World) (hn : n < ns.length) (hm : may ns = true) (hk : (nd ns n).kind = 3 ∨ (nd ns n).kind = 4) (hi : i < (kids ns n).length) (hF : AllFit ns (g + 1) n (ss.map bl)) (h64 : ss.length ≤ 64) (ht : Hid (IsT w oT ns)) (hR : Hid (IsRows w oR (rowsP ns n ss))) :
    Calls Tryz.prog 168 #[.agg #[.slice oT ns.length capT], .int .i64 (n : Int), .slice oR ss.length cR, .int .i64 (i : Int)] w fun r w' => ∃ o c, r = .returned (.slice o ((kidRows ns n (ss.map bl) i).map mk).length c) ∧ Texts.IsTx w' o ((kidRows ns n (ss.map bl) i).map mk) ∧ Below w.heap.size w w' := by
  have hM := may_of hm
  obtain ⟨x, rfl, hl⟩ := ht.out.some (by omega)
  obtain ⟨w1, e1, s1, c1, b1⟩ := boxed w (.slice (some x) ns.length capT) 85
  obtain ⟨w2, e2, s2, c2, b2⟩ := boxed w1 (.int .i64 (i : Int)) 3
  have B2 : Hid (Below w.heap.size w w2) := bel2 b1 b2
  have c1' := cell_later b2 c1
  have ck := (hl.later B2.out).kind' n hn
  have CI2 : Hid (w2.cell? ⟨w1.heap.size, 0, none⟩ = some (.int .i64 (i : Int))) := c2
  have j0 : (0 : Int) ≤ (n : Int) := Int.natCast_nonneg _
  have j1 : (n : Int) < (ns.length : Int) := by omega
  have hrl : (rowsP ns n ss).length = ss.length := by simp [rowsP]
  have HRL : Hid ((rowsP ns n ss).length = ss.length) := hrl
  have HMS : Hid (∀ k, k < (rowsP ns n ss).length → ((rowsP ns n ss).getD k []).length ≤ 64) := fun k hk' => by
    rw [hrl] at hk'
    rw [rowsP_at ns n ss hk', List.length_map]
    exact pb_most hM hn (by rw [show mk (bl (ss.getD k ByteArray.empty)) = ss.getD k ByteArray.empty from mk_of _]; exact all_at hF hk')
  clear b1 b2 hl
  by_cases e : (nd ns n).kind = 3
  · have HE : Hid ((rowsP ns n ss).flatten = (kidRows ns n (ss.map bl) i).map mk) := rowsP_flat hM hn e hF i
    have HCC : Hid (Calls Tryz.prog 106 #[.slice oR ss.length cR] w2 fun r w' => ∃ o' c', r = .returned (.slice o' (rowsP ns n ss).flatten.length c') ∧ w'.ownsRow w2.heap.size 9 1 (.slice o' (rowsP ns n ss).flatten.length c') (rowsP ns n ss).flatten.length (Texts.cellsT (rowsP ns n ss).flatten) ∧ Below w2.heap.size w2 w') := by
      have := concatT (rowsP ns n ss) oR cR (by rw [HRL.out]; exact h64) HMS.out w2 (hR.out.later B2.out)
      rw [HRL.out] at this
      exact this
    rw [← HE.out]
    rw [e] at ck
    clear hk e hM hF hrl HMS HE
    generalize (rowsP ns n ss).flatten = F at *
    go_enter Tryz.func168, Tryz.ntmps168
    go_wp2_with fail
    refine HCC.out.mono ?_
    rintro e w3 ⟨o3, c3, rfl, hown, b3⟩
    have B3 : Hid (Below w.heap.size w w3) := bel2 B2.out b3
    have HTX : Hid (Texts.IsTx w3 o3 F) := Texts.own_texts hown
    clear hown b3
    go_wp2
    go_ret
    exact ⟨o3, c3, rfl, HTX.out, B3.out⟩
  · have e4 : (nd ns n).kind = 4 := by rcases hk with h | h; · exact absurd h e
                                       · exact h
    have hkd : ((nd ns n).kind == 3) = false := by rw [beq_eq_false_iff_ne]; exact e
    obtain ⟨G, hG⟩ : ∃ G : Nat → ByteArray, G = fun k => ((partsB ns n (bl (ss.getD k ByteArray.empty))).map mk).getD i ByteArray.empty := ⟨_, rfl⟩
    have HE : Hid ((kidRows ns n (ss.map bl) i).map mk = (List.range ss.length).map G) := by rw [hG]; exact kids4_rows hM hn e4 hF hi
    have HPT : Hid (∀ k, k < ss.length → i < ((partsB ns n (bl (ss.getD k ByteArray.empty))).map mk).length ∧ ((partsB ns n (bl (ss.getD k ByteArray.empty))).map mk).length ≤ 64) := fun k hk' => by
      have hfit : fitsF ns (g + 1) n (mk (bl (ss.getD k ByteArray.empty))) = true := by rw [show mk (bl (ss.getD k ByteArray.empty)) = ss.getD k ByteArray.empty from mk_of _]; exact all_at hF hk'
      rw [List.length_map, (pb_struct hM hn e4 hfit).1]
      exact ⟨hi, by have := kids_most hM n; omega⟩
    have HAT : Hid (∀ k, k < ss.length → (rowsP ns n ss).getD k [] = (partsB ns n (bl (ss.getD k ByteArray.empty))).map mk) := fun k hk' => rowsP_at ns n ss hk'
    obtain ⟨xs, hxl, hL, hrow⟩ := hR.out
    rw [hrl] at hxl
    have HEA : Hid (Calls Tryz.prog 206 #[.slice oR ss.length cR, .func (.func 207) #[] #[.pointer (some ⟨w1.heap.size, 0, none⟩)]] w2 fun r w' => ∃ o' ys, r = .returned (.slice o' ss.length ss.length) ∧ ys.length = ss.length ∧ w'.ownsRow w2.heap.size 9 1 (.slice o' ss.length ss.length) ss.length ys ∧ (∀ k y, ys[k]? = some y → Pure (fun k => .string (G k)) w' k y) ∧ Below w2.heap.size w2 w') := by
      have := eachPart w1.heap.size xs oR cR (by omega) (Pure (fun k => .string (G k))) w2 (pure_stay _ _) (hL.later B2.out) (fun k y v hk' hv _ => by
        have hkl : k < ss.length := by
          have := (List.getElem?_eq_some_iff.1 hk').1
          omega
        obtain ⟨ok, cok, rfl, _, htx⟩ := hrow k y hk'
        obtain ⟨h1, h2⟩ := HPT.out k hkl
        rw [HAT.out k hkl] at htx ⊢
        refine (partC _ i h1 ok cok w1.heap.size v (htx.later (bel2 B2.out hv)) (cell_later hv CI2.out) (by omega)).mono ?_
        rintro e w5 ⟨rfl, rfl⟩
        exact ⟨_, rfl, by show _ = _; rw [hG], Below.refl _ _⟩)
      rw [hxl] at this
      exact this
    rw [HE.out]
    rw [e4] at ck
    clear hk e e4 hM hF hrl HMS HE HAT hxl hL hrow HPT hkd
    clear hG
    go_enter Tryz.func168, Tryz.ntmps168
    go_wp2_with fail
    refine HEA.out.mono ?_
    rintro e w3 ⟨o3, ys, rfl, hyl, hown3, hpure, b3⟩
    have B3 : Hid (Below w.heap.size w w3) := bel2 B2.out b3
    have hys : ys = Texts.cellsT ((List.range ss.length).map G) := by
      rw [pure_list hyl hpure]
      unfold Texts.cellsT
      rw [List.map_map]
      rfl
    have HTX : Hid (Texts.IsTx w3 o3 ((List.range ss.length).map G)) := by
      rw [hys] at hown3
      exact own_textsN hown3 (by simp)
    have HLG : Hid (((List.range ss.length).map G).length = ss.length) := by simp [Hid]
    clear hyl hown3 hpure b3 hys
    go_wp2
    go_ret
    rw [HLG.out]
    exact ⟨o3, ss.length, rfl, HTX.out, B3.out⟩
/-- What the program's array answers, of any node, so deep. -/
def ArrayC (B f : Nat) : Prop := ∀ (ns : List Nd) (oT : Option Addr) (capT n g : Nat) (ss : List ByteArray) (o : Option Addr) (cap : Nat) (w : World), n < ns.length → may ns = true → ns.length - n ≤ f → ns.length - n ≤ g → AllFit ns g n (ss.map bl) → Hid (HomeE w) → Texts.IsTx w o ss → IsT w oT ns →
  Calls Tryz.prog 60 #[.agg #[.slice oT ns.length capT], .int .i64 (n : Int), .slice o ss.length cap] w (BuildQ B f ns n (ss.map bl) w)
/-- Are all kids' arrays built? -/
def kidsOk (ns : List Nd) (f n : Nat) (V : List (List UInt8)) : Bool := (List.range (kids ns n).length).all fun j => (buildF ns f (kAt ns n j) (kidRows ns n V j)).isSome
/-- What the program's kids answers. -/
def KidsQ (B f : Nat) (ns : List Nd) (n : Nat) (V : List (List UInt8)) (w : World) (r : Ending) (w' : World) : Prop :=
  ∃ (o' : Option Addr) (L c' : Nat), r = .returned (.tuple #[.slice o' L c', .bool (kidsOk ns f n V)]) ∧ Below w.heap.size w w' ∧ (kidsOk ns f n V = true → L = (kids ns n).length ∧ ∃ b0 css, w.heap.size ≤ b0 ∧ Copied B f (built ns f n V) b0 (kids ns n).length (.slice o' (kids ns n).length c') w' css)
theorem built_len (ns : List Nd) (f n : Nat) (V : List (List UInt8)) : (built ns f n V).kids.length = (kids ns n).length := by
  unfold built
  simp
theorem built_kid (ns : List Nd) (f n : Nat) (V : List (List UInt8)) {j : Nat} (hj : j < (kids ns n).length) : kidAt (built ns f n V) j = (buildF ns f (kAt ns n j) (kidRows ns n V j)).getD nil := by
  unfold kidAt built
  simp only
  rw [List.getD_eq_getElem?_getD, List.getElem?_map, List.getElem?_range hj]
  rfl
set_option maxRecDepth 20000 in
set_option maxHeartbeats 6400000 in
theorem kids_step (B f : Nat) (hB : 4096 ≤ B) (ih : Hid (ArrayC B f)) (ns : List Nd) (oT : Option Addr) (capT n g : Nat) (ss : List ByteArray) (oR : Option Addr) (cR : Nat) (w : World) (hn : n < ns.length) (hm : may ns = true) (hf : ns.length - n ≤ f + 1) (hg : ns.length - n ≤ g + 1) (hF : AllFit ns (g + 1) n (ss.map bl)) (h64 : ss.length ≤ 64) (hw : Hid (HomeE w)) (ht : Hid (IsT w oT ns)) (hR : Hid (IsRows w oR (rowsP ns n ss))) :
    Calls Tryz.prog 110 #[.agg #[.slice oT ns.length capT], .int .i64 (n : Int), .slice oR ss.length cR] w (KidsQ B f ns n (ss.map bl) w) := by
  have hM := may_of hm
  obtain ⟨i27, hi27, hz270, hz271, hz272⟩ := info_parts info27
  obtain ⟨x, rfl, hl⟩ := ht.out.some (by omega)
  obtain ⟨w1, e1, s1, c1, b1⟩ := boxed w (.slice (some x) ns.length capT) 85
  have B1 : Hid (Below w.heap.size w w1) := b1
  have HC1 : Hid (w1.cell? ⟨w.heap.size, 0, none⟩ = some (.slice (some x) ns.length capT)) := c1
  have HKS : Hid (∀ v, Below w.heap.size w v → Calls Tryz.prog 69 #[.agg #[.slice (some x) ns.length capT], .int .i64 (n : Int)] v fun r w' => ∃ o c, r = .returned (.tuple #[.slice o (kids ns n).length c, .int .i64 0]) ∧ w'.ownsRow v.heap.size 3 1 (.slice o (kids ns n).length c) (kids ns n).length (ints (kids ns n)) ∧ Below v.heap.size v w') := fun v hv => by
    have hB : hasB ns (n : Int) = true := by unfold hasB; rw [hm, decide_eq_true (by omega)]; rfl
    have hKA : kidsA ns (n : Int) = kids ns n := by unfold kidsA; rw [if_pos hB]
    have := kidsP (some x) capT ns (n : Int) v (ht.out.later hv)
    rw [hB, hKA] at this
    exact this
  have HKM : Hid ((kids ns n).length ≤ 8) := kids_most hM n
  have HBE : Hid (∀ j v, j < (kids ns n).length → Below w.heap.size w v → Calls Tryz.prog 168 #[.agg #[.slice (some x) ns.length capT], .int .i64 (n : Int), .slice oR ss.length cR, .int .i64 (j : Int)] v fun r w' => ∃ o c, r = .returned (.slice o ((kidRows ns n (ss.map bl) j).map mk).length c) ∧ Texts.IsTx w' o ((kidRows ns n (ss.map bl) j).map mk) ∧ Below v.heap.size v w') := fun j v hj hv => by
    have hk34 : (nd ns n).kind = 3 ∨ (nd ns n).kind = 4 := by
      rcases kinds hM hn with e | e | e | e | e
      · have := hM.leaf n hn (by rw [e]; rfl); rw [this] at hj; cases hj
      · have := hM.leaf n hn (by rw [e]; rfl); rw [this] at hj; cases hj
      · have := hM.leaf n hn (by rw [e]; rfl); rw [this] at hj; cases hj
      · exact .inl e
      · exact .inr e
    exact belowW (some x) capT ss j oR cR v hn hm hk34 hj hF h64 (ht.out.later hv) (hR.out.later hv)
  have HCALL : Hid (∀ j v oK cK, j < (kids ns n).length → Below w.heap.size w v → Texts.IsTx v oK ((kidRows ns n (ss.map bl) j).map mk) → Calls Tryz.prog 60 #[.agg #[.slice (some x) ns.length capT], .int .i64 ((kAt ns n j : Nat) : Int), .slice oK ((kidRows ns n (ss.map bl) j).map mk).length cK] v (BuildG B f (buildF ns f (kAt ns n j) (kidRows ns n (ss.map bl) j)) v)) := fun j v oK cK hj hv hx => by
    have h1 := kid_of hM hj
    have hfk := kidRows_fit hM hn (by omega) hF hj
    have hbm : ((kidRows ns n (ss.map bl) j).map mk).map bl = kidRows ns n (ss.map bl) j := by rw [List.map_map, show (bl ∘ mk) = id from funext fun l => bl_mk l, List.map_id]
    have := ih.out ns (some x) capT (kAt ns n j) g ((kidRows ns n (ss.map bl) j).map mk) oK cK v h1.2.1 hm (by have := h1.1; omega) (by have := h1.1; omega) (by rw [hbm]; exact hfk) (hw.out.later hv) hx (ht.out.later hv)
    rw [hbm] at this
    exact this
  have HKL : Hid ((built ns f n (ss.map bl)).kids.length = (kids ns n).length) := built_len ns f n _
  have HKA : Hid (∀ j, j < (kids ns n).length → kidAt (built ns f n (ss.map bl)) j = (buildF ns f (kAt ns n j) (kidRows ns n (ss.map bl) j)).getD nil) := fun j hj => built_kid ns f n _ hj
  have HOK : Hid (kidsOk ns f n (ss.map bl) = (List.range (kids ns n).length).all fun j => (buildF ns f (kAt ns n j) (kidRows ns n (ss.map bl) j)).isSome) := rfl
  have HQ : Hid (∀ r w', (∃ (o' : Option Addr) (L c' : Nat), r = .returned (.tuple #[.slice o' L c', .bool (kidsOk ns f n (ss.map bl))]) ∧ Below w.heap.size w w' ∧ (kidsOk ns f n (ss.map bl) = true → L = (kids ns n).length ∧ ∃ b0 css, w.heap.size ≤ b0 ∧ Copied B f (built ns f n (ss.map bl)) b0 (kids ns n).length (.slice o' (kids ns n).length c') w' css)) → KidsQ B f ns n (ss.map bl) w r w') := fun _ _ h => h
  have hKAt : ∀ j, (kids ns n).getD j 0 = kAt ns n j := fun _ => rfl
  have HKT : Hid (∀ j, j < (kids ns n).length → (ints (kids ns n))[j]? = some (.int .i64 ((kAt ns n j : Nat) : Int))) := fun j hj => by
    unfold ints
    rw [List.getElem?_map, List.getElem?_eq_getElem hj, ← hKAt, List.getD_eq_getElem?_getD, List.getElem?_eq_getElem hj]
    rfl
  clear hl b1 hM hF hKAt s1 c1
  generalize kidsOk ns f n (ss.map bl) = OK at *
  generalize hks : kids ns n = ks at *
  have HQ2 : Hid (∀ r w', (∃ (o' : Option Addr) (L c' : Nat), r = .returned (.tuple #[.slice o' L c', .bool OK]) ∧ Below w.heap.size w w' ∧ (OK = true → L = ks.length ∧ ∃ b0 css, w.heap.size ≤ b0 ∧ Copied B f (built ns f n (ss.map bl)) b0 ks.length (.slice o' ks.length c') w' css)) → KidsQ B f ns n (ss.map bl) w r w') := fun r w' h => HQ.out r w' h
  clear HQ hks
  have c1 := HC1.out
  generalize hKQ : KidsQ B f ns n (ss.map bl) w = KQ at *
  clear hKQ
  go_enter Tryz.func110, Tryz.ntmps110
  go_wp2_with fail
  refine (HKS.out w1 B1.out).mono ?_
  rintro e w2 ⟨ok, kc, rfl, hown, b2⟩
  have B2 : Hid (Below w.heap.size w w2) := bel2 B1.out b2
  have HC2 : Hid (w2.cell? ⟨w.heap.size, 0, none⟩ = some (.slice (some x) ns.length capT)) := cell_later b2 HC1.out
  have HLK : Hid (IsL w2 ok (ints ks)) := own_isL hown (by simp [ints])
  have hil : (ints ks).length = ks.length := by simp [ints]
  have HIL : Hid ((ints ks).length = ks.length) := hil
  clear b2 hown hil c1 HKS
  go_wp2_with fail
  go_loopw [8, 11, 12, 13, 14, 24] (fun v _ _ _ _ jv wr => ∃ (j : Nat) (css : List (List Value)) (ov : Option Addr) (cv : Nat), j ≤ ks.length ∧ jv = .int .i64 (j : Int) ∧ v = .slice ov j cv ∧ (∀ i, i < j → (buildF ns f (kAt ns n i) (kidRows ns n (ss.map bl) i)).isSome = true) ∧ Copied B f (built ns f n (ss.map bl)) w2.heap.size j (.slice ov j cv) wr css ∧ Below w2.heap.size w2 wr) (fun _ _ _ _ _ jv _ => ks.length - (intOf jv).toNat)
  case atStart => exact ⟨0, [], none, 0, Nat.zero_le _, rfl, rfl, fun i hi => by omega, copied0 _ _ _ _ _, Below.refl _ _⟩
  case round =>
    obtain ⟨j, css, ov, cv, hj, rfl, rfl, hall, hcp, hbl⟩ := hrel
    have B2R : Hid (Below w2.heap.size w2 wr) := hbl
    have hcr := cell_later hbl HC2.out
    have hlk := HLK.out.later hbl
    have HALL : Hid (∀ i, i < j → (buildF ns f (kAt ns n i) (kidRows ns n (ss.map bl) i)).isSome = true) := hall
    have CP : Hid (Copied B f (built ns f n (ss.map bl)) w2.heap.size j (.slice ov j cv) wr css) := hcp
    have BR : Hid (Below w.heap.size w wr) := bel2 B2.out hbl
    have HCR : Hid (wr.cell? ⟨w.heap.size, 0, none⟩ = some (.slice (some x) ns.length capT)) := hcr
    have HLR : Hid (IsL wr ok (ints ks)) := hlk
    have hkm := HKM.out
    clear hall hcp hbl hcr hlk
    by_cases hlt : j < ks.length
    · obtain ⟨y, rfl, hyy⟩ := HLR.out.some (by rw [HIL.out]; omega)
      have hcu := hyy j _ (HKT.out j hlt)
      have HBJ : Hid (∀ v, Below wr.heap.size wr v → Calls Tryz.prog 168 #[.agg #[.slice (some x) ns.length capT], .int .i64 (n : Int), .slice oR ss.length cR, .int .i64 (j : Int)] v fun r w' => ∃ o c, r = .returned (.slice o ((kidRows ns n (ss.map bl) j).map mk).length c) ∧ Texts.IsTx w' o ((kidRows ns n (ss.map bl) j).map mk) ∧ Below v.heap.size v w') := fun v hv => HBE.out j v hlt (bel2 BR.out hv)
      have HCJ : Hid (∀ v oK cK, Below wr.heap.size wr v → Texts.IsTx v oK ((kidRows ns n (ss.map bl) j).map mk) → Calls Tryz.prog 60 #[.agg #[.slice (some x) ns.length capT], .int .i64 ((kAt ns n j : Nat) : Int), .slice oK ((kidRows ns n (ss.map bl) j).map mk).length cK] v (BuildG B f (buildF ns f (kAt ns n j) (kidRows ns n (ss.map bl) j)) v)) := fun v oK cK hv hx => HCALL.out j v oK cK hlt (bel2 BR.out hv) hx
      have HKJ : Hid (kidAt (built ns f n (ss.map bl)) j = (buildF ns f (kAt ns n j) (kidRows ns n (ss.map bl) j)).getD nil) := HKA.out j hlt
      have HNO : Hid ((buildF ns f (kAt ns n j) (kidRows ns n (ss.map bl) j)).isSome = false → OK = false) := fun h => by
        rw [HOK.out]
        cases c : (List.range ks.length).all fun j => (buildF ns f (kAt ns n j) (kidRows ns n (ss.map bl) j)).isSome with
        | false => rfl
        | true => rw [List.all_eq_true.1 c j (List.mem_range.2 hlt)] at h; cases h
      have HAL2 : Hid ((buildF ns f (kAt ns n j) (kidRows ns n (ss.map bl) j)).isSome = true → ∀ i, i < j + 1 → (buildF ns f (kAt ns n i) (kidRows ns n (ss.map bl) i)).isSome = true) := fun h i hi => by
        by_cases hij : i < j
        · exact HALL.out i hij
        · obtain rfl : i = j := by omega
          exact h
      have i0 : (0 : Int) ≤ (j : Int) := Int.natCast_nonneg _
      have i1 : (j : Int) < (ks.length : Int) := by omega
      clear hyy
      generalize buildF ns f (kAt ns n j) (kidRows ns n (ss.map bl) j) = bf at *
      generalize (kidRows ns n (ss.map bl) j).map mk = KRW at *
      generalize kAt ns n j = kn at *
      have KLA : Hid (∀ W', Below wr.heap.size wr W' → W'.cell? ⟨w.heap.size, 0, none⟩ = some (.slice (some x) ns.length capT)) := fun W' hb => cell_later hb HCR.out
      have BD : Hid (Below wr.heap.size wr wr.drew) := drewN_below wr 1
      have KR : Hid (wr.drew.cell? ⟨w.heap.size, 0, none⟩ = some (.slice (some x) ns.length capT)) := KLA.out _ BD.out
      go_upto_region 6 with fail
      go_cut [13, 14] from 25 to 46 (fun p okv wx => ∃ (NB : Nat) (X : Arr) (o8 : Option Addr) (c8 : Nat), p = .pointer (some ⟨NB, 0, none⟩) ∧ okv = .bool bf.isSome ∧ wr.heap.size ≤ NB ∧ Bx wx NB X o8 c8 ∧ Below wr.heap.size wr wx ∧ (bf.isSome = true → bf = some X ∧ HoldsO B wx f (fun b => wr.heap.size ≤ b ∧ b < wx.heap.size) (X.cells o8 c8) X))
      case first =>
        refine wp_region_noPanic ?_
        refine wp_region_held_drew (S := fun W : World => W.cell? ⟨w.heap.size, 0, none⟩ = some (.slice (some x) ns.length capT)) (by kernel_rfl) KR.out (fun h0 => ?_)
        generalize wr.drew = wd at *
        refine take_at (i := 0) (d := some 30) (v := ?v0a) rfl rfl (by kernel_rfl) (by kernel_rfl) (by kernel_rfl) (fun _ _ _ h => h) (Or.inl ⟨by rfl, ?y0a⟩) h0 ?r0a
        case y0a => (intro w' hSw; (try dsimp only at hSw); go_simp; try with_reducible rfl)
        try simp only [Act.put, List.setIfInBounds_toArray, List.set_cons_zero, List.set_cons_succ]
        refine take_at (i := 1) (d := some 31) (v := ?v1a) rfl rfl (by kernel_rfl) (by kernel_rfl) (by kernel_rfl) (fun _ _ _ h => h) (Or.inl ⟨by rfl, ?y1a⟩) h0 ?r1a
        case y1a => (intro w' hSw; (try dsimp only at hSw); go_simp; try with_reducible rfl)
        try simp only [Act.put, List.setIfInBounds_toArray, List.set_cons_zero, List.set_cons_succ]
        refine take_at (i := 2) (d := some 32) (v := ?v2a) rfl rfl (by kernel_rfl) (by kernel_rfl) (by kernel_rfl) (fun _ _ _ h => h) (Or.inl ⟨by rfl, ?y2a⟩) h0 ?r2a
        case y2a => (intro w' hSw; (try dsimp only at hSw); go_simp; try with_reducible rfl)
        try simp only [Act.put, List.setIfInBounds_toArray, List.set_cons_zero, List.set_cons_succ]
        refine take_at (i := 3) (d := some 33) (v := ?v3a) rfl rfl (by kernel_rfl) (by kernel_rfl) (by kernel_rfl) (fun _ _ _ h => h) (Or.inl ⟨by rfl, ?y3a⟩) h0 ?r3a
        case y3a => (intro w' hSw; (try dsimp only at hSw); go_simp; try with_reducible rfl)
        try simp only [Act.put, List.setIfInBounds_toArray, List.set_cons_zero, List.set_cons_succ]
        refine take_at (i := 4) (d := some 34) (v := ?v4a) rfl rfl (by kernel_rfl) (by kernel_rfl) (by kernel_rfl) (fun _ _ _ h => h) (Or.inl ⟨by rfl, ?y4a⟩) h0 ?r4a
        case y4a => (intro w' hSw; (try dsimp only at hSw); go_simp; try with_reducible rfl)
        try simp only [Act.put, List.setIfInBounds_toArray, List.set_cons_zero, List.set_cons_succ]
        refine take_at (i := 5) (d := some 35) (v := ?v5a) rfl rfl (by kernel_rfl) (by kernel_rfl) (by kernel_rfl) (fun _ _ _ h => h) (Or.inl ⟨by rfl, ?y5a⟩) h0 ?r5a
        case y5a => (intro w' hSw; (try dsimp only at hSw); go_simp; try with_reducible rfl)
        try simp only [Act.put, List.setIfInBounds_toArray, List.set_cons_zero, List.set_cons_succ]
        refine wpAnyH_ready (rs := [6, 11]) (by kernel_rfl) (by simp) ?_
        refine AllReadyH.cons rfl (fun K hK => ?_) (AllReadyH.cons rfl (fun K hK => ?_) AllReadyH.nil)
        · go_simp
          go_at_call 168
          refine (HBJ.out _ BD.out).mono ?_
          rintro e wb ⟨oK, cK, rfl, htx, bb⟩
          have HTXwb : Hid (Texts.IsTx wb oK KRW) := htx
          have Bwb : Hid (Below wr.heap.size wr wb) := bel2 BD.out bb
          have Kwb : Hid (wb.cell? ⟨w.heap.size, 0, none⟩ = some (.slice (some x) ns.length capT)) := KLA.out _ Bwb.out
          clear bb htx
          refine hK.out _ _ Kwb.out (fun h1 => ?_)
          clear hK K
          try simp only [Act.put, List.setIfInBounds_toArray, List.set_cons_zero, List.set_cons_succ]
          refine wpAnyH_ready (rs := [7, 11]) (by kernel_rfl) (by simp) ?_
          refine AllReadyH.cons rfl (fun K hK => ?_) (AllReadyH.cons rfl (fun K hK => ?_) AllReadyH.nil)
          · go_simp
            go_at_call 60
            refine (HCJ.out _ oK cK Bwb.out HTXwb.out).mono ?_
            rintro e w8 ⟨X, o8, c8, rfl, b8, hX⟩
            have HX : Hid (bf.isSome = true → bf = some X ∧ HoldsO B w8 f (fun b => wb.heap.size ≤ b) (X.cells o8 c8) X) := hX
            unfold Arr.val
            have B8 : Hid (Below wr.heap.size wr w8) := bel2 Bwb.out b8
            have K8 : Hid (w8.cell? ⟨w.heap.size, 0, none⟩ = some (.slice (some x) ns.length capT)) := KLA.out _ B8.out
            have hs8 := b8.size
            have hsW := Bwb.out.size
            clear b8 hX
            refine hK.out _ _ K8.out (fun h2 => ?_)
            clear hK K
            try simp only [Act.put, List.setIfInBounds_toArray, List.set_cons_zero, List.set_cons_succ]
            refine take_at (i := 8) (d := some 29) (v := ?v8b) rfl rfl (by kernel_rfl) (by kernel_rfl) (by kernel_rfl) (fun _ _ _ h => h) (Or.inl ⟨by rfl, ?y8b⟩) h2 ?r8b
            case y8b => (intro w' hSw; (try dsimp only at hSw); go_simp; try with_reducible rfl)
            try simp only [Act.put, List.setIfInBounds_toArray, List.set_cons_zero, List.set_cons_succ]
            refine take_at (i := 9) (d := some 38) (v := ?v9b) rfl rfl (by kernel_rfl) (by kernel_rfl) (by kernel_rfl) (fun _ _ _ h => h) (Or.inl ⟨by rfl, ?y9b⟩) h2 ?r9b
            case y9b => (intro w' hSw; (try dsimp only at hSw); go_simp; try with_reducible rfl)
            try simp only [Act.put, List.setIfInBounds_toArray, List.set_cons_zero, List.set_cons_succ]
            refine take_at (i := 10) (d := some 39) (v := ?v10b) rfl rfl (by kernel_rfl) (by kernel_rfl) (by kernel_rfl) (fun _ _ _ h => h) (Or.inl ⟨by rfl, ?y10b⟩) h2 ?r10b
            case y10b => (intro w' hSw; (try dsimp only at hSw); go_simp; try with_reducible rfl)
            try simp only [Act.put, List.setIfInBounds_toArray, List.set_cons_zero, List.set_cons_succ]
            refine wpAnyH_ready (rs := [11]) (by kernel_rfl) (by simp) ?_
            refine AllReadyH.cons rfl (fun K hK => ?_) AllReadyH.nil
            go_simp
            obtain ⟨wa, ea, xa, ba, za⟩ := box7 w8 nil none 0
            have eab : w8.alloc (.cells #[.int .i64 0, .int .i64 0, .int .i64 0, .string ⟨#[]⟩, .string ⟨#[]⟩, .string ⟨#[]⟩, .slice none 0 0] 27) = wa := ea
            rw [eab]
            have XA0 : Hid (Bx wa w8.heap.size nil none 0) := xa
            have Bwa : Hid (Below wr.heap.size wr wa) := bel2 B8.out ba
            have BAwa : Hid (Below w8.heap.size w8 wa) := ba
            have Kwa : Hid (wa.cell? ⟨w.heap.size, 0, none⟩ = some (.slice (some x) ns.length capT)) := KLA.out _ Bwa.out
            have hsd := B8.out.size
            clear ea eab xa ba
            refine hK.out _ _ Kwa.out (fun h3 => ?_)
            clear hK K
            try simp only [Act.put, List.setIfInBounds_toArray, List.set_cons_zero, List.set_cons_succ]
            have s0 := XA0.out.fz 0
            have s1 := XA0.out.fz 1
            have s2 := XA0.out.fz 2
            have s3 := XA0.out.fz 3
            have s4 := XA0.out.fz 4
            have s5 := XA0.out.fz 5
            have s6 := XA0.out.fz 6
            have t0 := XA0.out.c0
            have t1 := XA0.out.c1
            have t2 := XA0.out.c2
            have t3 := XA0.out.c3
            have t4 := XA0.out.c4
            have t5 := XA0.out.c5
            have t6 := XA0.out.c6
            refine wpAnyH_ready (rs := [12]) (by kernel_rfl) (by simp) ?_
            refine AllReadyH.cons rfl (fun K hK => ?_) AllReadyH.nil
            go_simp
            obtain ⟨w10, e10, x10, h10, b10⟩ := set7 XA0.out X o8 c8
            have e10b : ((((((wa.setCell ⟨w8.heap.size, 0, none⟩ (.int .i64 X.layout)).setCell ⟨w8.heap.size, 1, none⟩ (.int .i64 X.offset)).setCell ⟨w8.heap.size, 2, none⟩ (.int .i64 X.length)).setCell ⟨w8.heap.size, 3, none⟩ (.string X.valid)).setCell ⟨w8.heap.size, 4, none⟩ (.string X.ends)).setCell ⟨w8.heap.size, 5, none⟩ (.string X.data)).setCell ⟨w8.heap.size, 6, none⟩ (.slice o8 X.kids.length c8) = w10 := e10
            rw [e10b]
            have X10 : Hid (Bx w10 w8.heap.size X o8 c8) := x10
            have B10 : Hid (Below wr.heap.size wr w10) := Bwa.out.trans (b10 wr.heap.size (by omega))
            have HX10 : Hid (bf.isSome = true → bf = some X ∧ HoldsO B w10 f (fun b => wr.heap.size ≤ b ∧ b < w10.heap.size) (X.cells o8 c8) X) := fun h => by
                obtain ⟨p1, p2⟩ := HX.out h
                have hsz := (b10 0 (Nat.zero_le _)).size
                refine ⟨p1, p2.lt.stays (fun b hb => (h10 b (by omega)).trans (BAwa.out.block b hb.2)) (fun b hb => ⟨by omega, by omega⟩)⟩
            have K10 : Hid (w10.cell? ⟨w.heap.size, 0, none⟩ = some (.slice (some x) ns.length capT)) := KLA.out _ B10.out
            clear e10 e10b x10 h10 b10
            clear s0 s1 s2 s3 s4 s5 s6 t0 t1 t2 t3 t4 t5 t6
            refine hK.out _ _ K10.out (fun h4 => ?_)
            clear hK K
            try simp only [Act.put, List.setIfInBounds_toArray, List.set_cons_zero, List.set_cons_succ]
            refine take_at (i := 13) (d := some 14) (v := ?v13b) rfl rfl (by kernel_rfl) (by kernel_rfl) (by kernel_rfl) (fun _ _ _ h => h) (Or.inl ⟨by rfl, ?y13b⟩) h4 ?r13b
            case y13b => (intro w' hSw; (try dsimp only at hSw); go_simp; try with_reducible rfl)
            try simp only [Act.put, List.setIfInBounds_toArray, List.set_cons_zero, List.set_cons_succ]
            refine wpAnyH_done (by kernel_rfl) ?_ _
            refine NoPanic.normal ?_
            go_wp2_with fail
            go_meet
            case rel => exact ⟨w8.heap.size, X, o8, c8, rfl, rfl, by omega, X10.out, B10.out, HX10.out⟩
          · go_simp
            obtain ⟨wa, ea, xa, ba, za⟩ := box7 wb nil none 0
            have eab : wb.alloc (.cells #[.int .i64 0, .int .i64 0, .int .i64 0, .string ⟨#[]⟩, .string ⟨#[]⟩, .string ⟨#[]⟩, .slice none 0 0] 27) = wa := ea
            rw [eab]
            have XA0 : Hid (Bx wa wb.heap.size nil none 0) := xa
            have Bwa : Hid (Below wr.heap.size wr wa) := bel2 Bwb.out ba
            have BAwa : Hid (Below wb.heap.size wb wa) := ba
            have Kwa : Hid (wa.cell? ⟨w.heap.size, 0, none⟩ = some (.slice (some x) ns.length capT)) := KLA.out _ Bwa.out
            have hsd := Bwb.out.size
            have HTXa : Hid (Texts.IsTx wa oK KRW) := HTXwb.out.later ba
            clear ea eab xa ba
            refine hK.out _ _ Kwa.out (fun h2 => ?_)
            clear hK K
            try simp only [Act.put, List.setIfInBounds_toArray, List.set_cons_zero, List.set_cons_succ]
            refine wpAnyH_ready (rs := [7]) (by kernel_rfl) (by simp) ?_
            refine AllReadyH.cons rfl (fun K hK => ?_) AllReadyH.nil
            go_simp
            go_at_call 60
            refine (HCJ.out _ oK cK Bwa.out HTXa.out).mono ?_
            rintro e w8 ⟨X, o8, c8, rfl, b8, hX⟩
            have HX : Hid (bf.isSome = true → bf = some X ∧ HoldsO B w8 f (fun b => wa.heap.size ≤ b) (X.cells o8 c8) X) := hX
            unfold Arr.val
            have B8 : Hid (Below wr.heap.size wr w8) := bel2 Bwa.out b8
            have K8 : Hid (w8.cell? ⟨w.heap.size, 0, none⟩ = some (.slice (some x) ns.length capT)) := KLA.out _ B8.out
            have hs8 := b8.size
            have hsW := Bwa.out.size
            have XA1 : Hid (Bx w8 wb.heap.size nil none 0) := XA0.out.later b8
            clear b8 hX
            refine hK.out _ _ K8.out (fun h3 => ?_)
            clear hK K
            try simp only [Act.put, List.setIfInBounds_toArray, List.set_cons_zero, List.set_cons_succ]
            refine take_at (i := 8) (d := some 29) (v := ?v8c) rfl rfl (by kernel_rfl) (by kernel_rfl) (by kernel_rfl) (fun _ _ _ h => h) (Or.inl ⟨by rfl, ?y8c⟩) h3 ?r8c
            case y8c => (intro w' hSw; (try dsimp only at hSw); go_simp; try with_reducible rfl)
            try simp only [Act.put, List.setIfInBounds_toArray, List.set_cons_zero, List.set_cons_succ]
            refine take_at (i := 9) (d := some 38) (v := ?v9c) rfl rfl (by kernel_rfl) (by kernel_rfl) (by kernel_rfl) (fun _ _ _ h => h) (Or.inl ⟨by rfl, ?y9c⟩) h3 ?r9c
            case y9c => (intro w' hSw; (try dsimp only at hSw); go_simp; try with_reducible rfl)
            try simp only [Act.put, List.setIfInBounds_toArray, List.set_cons_zero, List.set_cons_succ]
            refine take_at (i := 10) (d := some 39) (v := ?v10c) rfl rfl (by kernel_rfl) (by kernel_rfl) (by kernel_rfl) (fun _ _ _ h => h) (Or.inl ⟨by rfl, ?y10c⟩) h3 ?r10c
            case y10c => (intro w' hSw; (try dsimp only at hSw); go_simp; try with_reducible rfl)
            try simp only [Act.put, List.setIfInBounds_toArray, List.set_cons_zero, List.set_cons_succ]
            have s0 := XA1.out.fz 0
            have s1 := XA1.out.fz 1
            have s2 := XA1.out.fz 2
            have s3 := XA1.out.fz 3
            have s4 := XA1.out.fz 4
            have s5 := XA1.out.fz 5
            have s6 := XA1.out.fz 6
            have t0 := XA1.out.c0
            have t1 := XA1.out.c1
            have t2 := XA1.out.c2
            have t3 := XA1.out.c3
            have t4 := XA1.out.c4
            have t5 := XA1.out.c5
            have t6 := XA1.out.c6
            refine wpAnyH_ready (rs := [12]) (by kernel_rfl) (by simp) ?_
            refine AllReadyH.cons rfl (fun K hK => ?_) AllReadyH.nil
            go_simp
            obtain ⟨w10, e10, x10, h10, b10⟩ := set7 XA1.out X o8 c8
            have e10b : ((((((w8.setCell ⟨wb.heap.size, 0, none⟩ (.int .i64 X.layout)).setCell ⟨wb.heap.size, 1, none⟩ (.int .i64 X.offset)).setCell ⟨wb.heap.size, 2, none⟩ (.int .i64 X.length)).setCell ⟨wb.heap.size, 3, none⟩ (.string X.valid)).setCell ⟨wb.heap.size, 4, none⟩ (.string X.ends)).setCell ⟨wb.heap.size, 5, none⟩ (.string X.data)).setCell ⟨wb.heap.size, 6, none⟩ (.slice o8 X.kids.length c8) = w10 := e10
            rw [e10b]
            have X10 : Hid (Bx w10 wb.heap.size X o8 c8) := x10
            have B10 : Hid (Below wr.heap.size wr w10) := B8.out.trans (b10 wr.heap.size (by omega))
            have HX10 : Hid (bf.isSome = true → bf = some X ∧ HoldsO B w10 f (fun b => wr.heap.size ≤ b ∧ b < w10.heap.size) (X.cells o8 c8) X) := fun h => by
                obtain ⟨p1, p2⟩ := HX.out h
                have hsz := (b10 0 (Nat.zero_le _)).size
                refine ⟨p1, p2.lt.stays (fun b hb => h10 b (by have := za; omega)) (fun b hb => ⟨by omega, by omega⟩)⟩
            have K10 : Hid (w10.cell? ⟨w.heap.size, 0, none⟩ = some (.slice (some x) ns.length capT)) := KLA.out _ B10.out
            clear e10 e10b x10 h10 b10
            clear s0 s1 s2 s3 s4 s5 s6 t0 t1 t2 t3 t4 t5 t6
            refine hK.out _ _ K10.out (fun h4 => ?_)
            clear hK K
            try simp only [Act.put, List.setIfInBounds_toArray, List.set_cons_zero, List.set_cons_succ]
            refine take_at (i := 13) (d := some 14) (v := ?v13c) rfl rfl (by kernel_rfl) (by kernel_rfl) (by kernel_rfl) (fun _ _ _ h => h) (Or.inl ⟨by rfl, ?y13c⟩) h4 ?r13c
            case y13c => (intro w' hSw; (try dsimp only at hSw); go_simp; try with_reducible rfl)
            try simp only [Act.put, List.setIfInBounds_toArray, List.set_cons_zero, List.set_cons_succ]
            refine wpAnyH_done (by kernel_rfl) ?_ _
            refine NoPanic.normal ?_
            go_wp2_with fail
            go_meet
            case rel => exact ⟨wb.heap.size, X, o8, c8, rfl, rfl, by omega, X10.out, B10.out, HX10.out⟩
        · go_simp
          obtain ⟨wa, ea, xa, ba, za⟩ := box7 wd nil none 0
          have eab : wd.alloc (.cells #[.int .i64 0, .int .i64 0, .int .i64 0, .string ⟨#[]⟩, .string ⟨#[]⟩, .string ⟨#[]⟩, .slice none 0 0] 27) = wa := ea
          rw [eab]
          have XA0 : Hid (Bx wa wd.heap.size nil none 0) := xa
          have Bwa : Hid (Below wr.heap.size wr wa) := bel2 BD.out ba
          have BAwa : Hid (Below wd.heap.size wd wa) := ba
          have Kwa : Hid (wa.cell? ⟨w.heap.size, 0, none⟩ = some (.slice (some x) ns.length capT)) := KLA.out _ Bwa.out
          have hsd := BD.out.size
          clear ea eab xa ba
          refine hK.out _ _ Kwa.out (fun h1 => ?_)
          clear hK K
          try simp only [Act.put, List.setIfInBounds_toArray, List.set_cons_zero, List.set_cons_succ]
          refine wpAnyH_ready (rs := [6]) (by kernel_rfl) (by simp) ?_
          refine AllReadyH.cons rfl (fun K hK => ?_) AllReadyH.nil
          go_simp
          go_at_call 168
          refine (HBJ.out _ Bwa.out).mono ?_
          rintro e wb ⟨oK, cK, rfl, htx, bb⟩
          have HTXwb : Hid (Texts.IsTx wb oK KRW) := htx
          have Bwb : Hid (Below wr.heap.size wr wb) := bel2 Bwa.out bb
          have Kwb : Hid (wb.cell? ⟨w.heap.size, 0, none⟩ = some (.slice (some x) ns.length capT)) := KLA.out _ Bwb.out
          have XA1 : Hid (Bx wb wd.heap.size nil none 0) := XA0.out.later bb
          have hsb := bb.size
          clear bb htx
          refine hK.out _ _ Kwb.out (fun h2 => ?_)
          clear hK K
          try simp only [Act.put, List.setIfInBounds_toArray, List.set_cons_zero, List.set_cons_succ]
          refine wpAnyH_ready (rs := [7]) (by kernel_rfl) (by simp) ?_
          refine AllReadyH.cons rfl (fun K hK => ?_) AllReadyH.nil
          go_simp
          go_at_call 60
          refine (HCJ.out _ oK cK Bwb.out HTXwb.out).mono ?_
          rintro e w8 ⟨X, o8, c8, rfl, b8, hX⟩
          have HX : Hid (bf.isSome = true → bf = some X ∧ HoldsO B w8 f (fun b => wb.heap.size ≤ b) (X.cells o8 c8) X) := hX
          unfold Arr.val
          have B8 : Hid (Below wr.heap.size wr w8) := bel2 Bwb.out b8
          have K8 : Hid (w8.cell? ⟨w.heap.size, 0, none⟩ = some (.slice (some x) ns.length capT)) := KLA.out _ B8.out
          have hs8 := b8.size
          have hsW := Bwb.out.size
          have XA2 : Hid (Bx w8 wd.heap.size nil none 0) := XA1.out.later b8
          clear b8 hX
          refine hK.out _ _ K8.out (fun h3 => ?_)
          clear hK K
          try simp only [Act.put, List.setIfInBounds_toArray, List.set_cons_zero, List.set_cons_succ]
          refine take_at (i := 8) (d := some 29) (v := ?v8d) rfl rfl (by kernel_rfl) (by kernel_rfl) (by kernel_rfl) (fun _ _ _ h => h) (Or.inl ⟨by rfl, ?y8d⟩) h3 ?r8d
          case y8d => (intro w' hSw; (try dsimp only at hSw); go_simp; try with_reducible rfl)
          try simp only [Act.put, List.setIfInBounds_toArray, List.set_cons_zero, List.set_cons_succ]
          refine take_at (i := 9) (d := some 38) (v := ?v9d) rfl rfl (by kernel_rfl) (by kernel_rfl) (by kernel_rfl) (fun _ _ _ h => h) (Or.inl ⟨by rfl, ?y9d⟩) h3 ?r9d
          case y9d => (intro w' hSw; (try dsimp only at hSw); go_simp; try with_reducible rfl)
          try simp only [Act.put, List.setIfInBounds_toArray, List.set_cons_zero, List.set_cons_succ]
          refine take_at (i := 10) (d := some 39) (v := ?v10d) rfl rfl (by kernel_rfl) (by kernel_rfl) (by kernel_rfl) (fun _ _ _ h => h) (Or.inl ⟨by rfl, ?y10d⟩) h3 ?r10d
          case y10d => (intro w' hSw; (try dsimp only at hSw); go_simp; try with_reducible rfl)
          try simp only [Act.put, List.setIfInBounds_toArray, List.set_cons_zero, List.set_cons_succ]
          have s0 := XA2.out.fz 0
          have s1 := XA2.out.fz 1
          have s2 := XA2.out.fz 2
          have s3 := XA2.out.fz 3
          have s4 := XA2.out.fz 4
          have s5 := XA2.out.fz 5
          have s6 := XA2.out.fz 6
          have t0 := XA2.out.c0
          have t1 := XA2.out.c1
          have t2 := XA2.out.c2
          have t3 := XA2.out.c3
          have t4 := XA2.out.c4
          have t5 := XA2.out.c5
          have t6 := XA2.out.c6
          refine wpAnyH_ready (rs := [12]) (by kernel_rfl) (by simp) ?_
          refine AllReadyH.cons rfl (fun K hK => ?_) AllReadyH.nil
          go_simp
          obtain ⟨w10, e10, x10, h10, b10⟩ := set7 XA2.out X o8 c8
          have e10b : ((((((w8.setCell ⟨wd.heap.size, 0, none⟩ (.int .i64 X.layout)).setCell ⟨wd.heap.size, 1, none⟩ (.int .i64 X.offset)).setCell ⟨wd.heap.size, 2, none⟩ (.int .i64 X.length)).setCell ⟨wd.heap.size, 3, none⟩ (.string X.valid)).setCell ⟨wd.heap.size, 4, none⟩ (.string X.ends)).setCell ⟨wd.heap.size, 5, none⟩ (.string X.data)).setCell ⟨wd.heap.size, 6, none⟩ (.slice o8 X.kids.length c8) = w10 := e10
          rw [e10b]
          have X10 : Hid (Bx w10 wd.heap.size X o8 c8) := x10
          have B10 : Hid (Below wr.heap.size wr w10) := B8.out.trans (b10 wr.heap.size (by omega))
          have HX10 : Hid (bf.isSome = true → bf = some X ∧ HoldsO B w10 f (fun b => wr.heap.size ≤ b ∧ b < w10.heap.size) (X.cells o8 c8) X) := fun h => by
                obtain ⟨p1, p2⟩ := HX.out h
                have hsz := (b10 0 (Nat.zero_le _)).size
                refine ⟨p1, p2.lt.stays (fun b hb => h10 b (by have := za; omega)) (fun b hb => ⟨by omega, by omega⟩)⟩
          have K10 : Hid (w10.cell? ⟨w.heap.size, 0, none⟩ = some (.slice (some x) ns.length capT)) := KLA.out _ B10.out
          clear e10 e10b x10 h10 b10
          clear s0 s1 s2 s3 s4 s5 s6 t0 t1 t2 t3 t4 t5 t6
          refine hK.out _ _ K10.out (fun h4 => ?_)
          clear hK K
          try simp only [Act.put, List.setIfInBounds_toArray, List.set_cons_zero, List.set_cons_succ]
          refine take_at (i := 13) (d := some 14) (v := ?v13d) rfl rfl (by kernel_rfl) (by kernel_rfl) (by kernel_rfl) (fun _ _ _ h => h) (Or.inl ⟨by rfl, ?y13d⟩) h4 ?r13d
          case y13d => (intro w' hSw; (try dsimp only at hSw); go_simp; try with_reducible rfl)
          try simp only [Act.put, List.setIfInBounds_toArray, List.set_cons_zero, List.set_cons_succ]
          refine wpAnyH_done (by kernel_rfl) ?_ _
          refine NoPanic.normal ?_
          go_wp2_with fail
          go_meet
          case rel => exact ⟨wd.heap.size, X, o8, c8, rfl, rfl, by omega, X10.out, B10.out, HX10.out⟩
      case rest =>
        obtain ⟨NB, X, o8, c8, rfl, rfl, hNB, xN, bN, hXN⟩ := hcut
        have XN : Hid (Bx wc NB X o8 c8) := xN
        have B10 : Hid (Below wr.heap.size wr wc) := bN
        have HX10 : Hid (bf.isSome = true → bf = some X ∧ HoldsO B wc f (fun b => wr.heap.size ≤ b ∧ b < wc.heap.size) (X.cells o8 c8) X) := hXN
        have CP10 : Hid (Copied B f (built ns f n (ss.map bl)) w2.heap.size j (.slice ov j cv) wc css) := CP.out.stays (fun b _ hb => B10.out.block b hb) B10.out.size
        have BW : Hid (Below w.heap.size w wc) := bel2 BR.out B10.out
        have BW2 : Hid (Below w2.heap.size w2 wc) := bel2 B2R.out B10.out
        have hSR : w2.heap.size ≤ wr.heap.size := B2R.out.size
        have hSC : w2.heap.size ≤ wc.heap.size := BW2.out.size
        clear KLA HBJ HCJ xN bN hXN KR BD hcu
        cases hS : bf.isSome
        · have HNN : Hid (OK = false) := HNO.out hS
          clear hS HX10 HAL2 HNO
          go_wp2_with fail
          refine HQ2.out _ _ ⟨none, 0, 0, by rw [HNN.out]; rfl, BW.out, fun c => ?_⟩
          rw [HNN.out] at c
          cases c
        · obtain ⟨hbf, hho⟩ := HX10.out hS
          have HHO : Hid (HoldsO B wc f (fun b => wr.heap.size ≤ b ∧ b < wc.heap.size) (X.cells o8 c8) (kidAt (built ns f n (ss.map bl)) j)) := by
            rw [HKJ.out, hbf]
            exact hho
          have HALN : Hid (∀ i, i < j + 1 → (buildF ns f (kAt ns n i) (kidRows ns n (ss.map bl) i)).isSome = true) := HAL2.out hS
          have y0 := XN.out.c0
          have y1 := XN.out.c1
          have y2 := XN.out.c2
          have y3 := XN.out.c3
          have y4 := XN.out.c4
          have y5 := XN.out.c5
          have y6 := XN.out.c6
          have hown4 : wc.ownsRow w2.heap.size 27 7 (.slice ov j cv) j css.flatten := CP10.out.own
          clear hS hbf hho HX10 HAL2 HNO
          go_wp2_with (at_builtin; refine wpList_append_own_at _ rfl (.tmp 42) (.tmp 44) 25 rfl w2.heap.size 27 i27 _ 7 96 Tryz.underlying25 hi27 hz270 hz271 hz272 rfl (by decide) _ j _ rfl (hown4.alloc _) ⟨wc.heap.size, 0, none⟩ 1 1 (X.cells o8 c8) rfl rfl ?c1 ?c2 ?c3 ?c4 ?c5 ?_)
          case c1 =>
            intro i u hi
            match i, hi with
            | 0, hi => simp [Arr.cells] at hi; subst hi; simp [Addr.add]
            | 1, hi => simp [Arr.cells] at hi; subst hi; simp [Addr.add]
            | 2, hi => simp [Arr.cells] at hi; subst hi; simp [Addr.add]
            | 3, hi => simp [Arr.cells] at hi; subst hi; simp [Addr.add]
            | 4, hi => simp [Arr.cells] at hi; subst hi; simp [Addr.add]
            | 5, hi => simp [Arr.cells] at hi; subst hi; simp [Addr.add]
            | 6, hi => simp [Arr.cells] at hi; subst hi; simp [Addr.add]
          case c2 => intro u hu; simp [Arr.cells] at hu; rcases hu with rfl | rfl | rfl | rfl | rfl | rfl | rfl <;> rfl
          case c3 => unfold maxLen; omega
          case c4 => omega
          case c5 => simp; omega
          intro v' w5x hown' hgrow _ hblk
          have hgr := grown_alloc hgrow
          have HN : Hid (Copied B f (built ns f n (ss.map bl)) w2.heap.size (j + 1) v' w5x (css ++ [X.cells o8 c8])) := CP.out.step hSR B10.out rfl HHO.out hown' hgr (n5 := wc.heap.size + 1) (Nat.le_succ _) (by simpa using hblk)
          have B5x : Hid (Below w2.heap.size w2 w5x) := bel_grown (w' := w2) BW2.out hgr (fun q hq => (hown4.lt q hq).1)
          obtain ⟨oV, cV, rfl⟩ := ownsRow_len hown'
          clear hown' hgrow hblk hgr hown4 y0 y1 y2 y3 y4 y5 y6
          go_wp2
          go_roundw
          case rel => exact ⟨j + 1, _, oV, cV, by omega, by go_num, rfl, HALN.out, HN.out, B5x.out⟩
          case measure => simp [intOf]; omega
    · obtain rfl : j = ks.length := by omega
      have HYES : Hid (OK = true) := by
        rw [HOK.out]
        exact List.all_eq_true.2 fun i hi => HALL.out i (List.mem_range.1 hi)
      go_wp2
      exact HQ2.out _ _ ⟨ov, ks.length, cv, by rw [HYES.out]; rfl, BR.out, fun _ => ⟨rfl, _, css, B2.out.size, CP.out⟩⟩
end Go.Proofs.YtcpfhfdgfcilaaaGreatDoor.Arr
