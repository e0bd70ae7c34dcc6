/-
  bowspritlaw11.CatalogChanges: what Add and Drop answer, and leave. Of every catalog, every table and every name.
-/
import Derived.Test.YtibmjfihfljiiaaDoorCatT
import Derived.Test.YtibmjfihfljiiaaDoorCards
import Derived.Test.YtibmjfihfljiiaaDoorTie
import Derived.Test.YtibmjfihfljiiaaDoorCatCH
import Derived.SevenTiedAt
import Derived.ChangeOld
namespace Go.Proofs.YtibmjfihfljiiaaDoor
open Go.RowKit
open Go.Lib hiding intOf
set_option linter.unusedVariables false

set_option maxRecDepth 100000 in
theorem read_tab {H : Type} {enc : TypeId × Value → H} {W : World} {v : Value} {d : DataW H} {p : List MemPlace} {base : Nat} (h : DataW.Trod enc Tryd.prog W 0 (fun _ => true) true 28 v d p) (k : Value.okWide Tryd.prog W .any base 28 v) :
    ∃ (t : Tab) (a1 : Option Addr) (c1 : Nat) (a2 : Option Addr) (c2 : Nat) (oc ok : Nat), v = TV t.n (.slice a1 t.cols.length c1) (.slice a2 t.keys.length c2) ∧ Cs W (.slice a1 t.cols.length c1) oc t.cols ∧ Is W (.slice a2 t.keys.length c2) ok t.keys ∧ Fit t := by
  obtain ⟨cs, rfl, hcs⟩ := WideShapes.okWide_struct Tryd.underlying28 k
  obtain ⟨x, hl⟩ := trod_rep (s := TabSh) 12 (by kernel_rfl) h
  have hl' : Rep W W.heap.size TabSh cs.toList x := hl
  obtain ⟨r, hc, hT, hF⟩ := rep_tab hl'
  obtain ⟨a1, c1, a2, c2, rfl⟩ := hT.shape
  obtain ⟨_, ⟨oc, _, q1⟩, ok, _, q2⟩ := hT
  refine ⟨tabOf x, a1, c1, a2, c2, oc, ok, ?_, q1, q2, hF⟩
  have hcs' : cs = #[.string (tabOf x).n, .slice a1 (tabOf x).cols.length c1, .slice a2 (tabOf x).keys.length c2] := by
    apply Array.toList_inj.1
    rw [hc]; rfl
  rw [hcs']
set_option maxRecDepth 100000 in
theorem walk_CatalogChanges {H : Type} {enc : TypeId × Value → H} (W : World) (hG : Glob W) (v0 : Value) (d0 : DataW H) (p0 : List MemPlace) (base0 : Nat) (h0 : DataW.Trod enc Tryd.prog W 0 (fun _ => true) true 24 v0 d0 p0) (k0 : Value.okWide Tryd.prog W .any base0 24 v0) (v1 : Value) (d1 : DataW H) (p1 : List MemPlace) (base1 : Nat) (h1 : DataW.Trod enc Tryd.prog W 0 (fun _ => true) true 28 v1 d1 p1) (k1 : Value.okWide Tryd.prog W .any base1 28 v1) (v2 : Value) (d2 : DataW H) (p2 : List MemPlace) (base2 : Nat) (h2 : DataW.Trod enc Tryd.prog W 0 (fun _ => true) true 9 v2 d2 p2) (k2 : Value.okWide Tryd.prog W .any base2 9 v2) :
    Calls Tryd.prog 3 #[v0, v1, v2] W fun e w' => e = .returned (.bool true) ∧ Below W.heap.size W w' := by
  obtain ⟨u, l, rfl, hT, hl, hf⟩ := read_cat h0 k0
  obtain ⟨t, a1, c1, a2, c2, oc, ok, rfl, q1, q2, hg⟩ := read_tab h1 k1
  obtain ⟨s, rfl⟩ := WideShapes.okWide_string Tryd.underlying9 k2
  exact (changes_in W u l t a1 c1 a2 c2 oc ok s hT q1 q2 hG hl (fit_ok hf) hg.2.1 hg.2.2.1).mono fun e w' r => ⟨r.1, r.2.below⟩
namespace catalogChanges
open Go.ChangeShapes Go.WideShapes Go.ChangeAt Go.RowKit
set_option maxRecDepth 100000 in
theorem lifted (os : Os) (started : os.Started) (H : Type) (enc : TypeId × Value → H) :
    ReturnsInHanded {} Tryd.checked os 3 .any (fun w args => (Rows.catalogChangesSpec.pre enc Tryd.prog Tryd.f3 Rows.catalogChangesRow.domain false w args ∧ laidMetH Tryd.prog laidL w) ∧ sizedMet enc Tryd.prog Tryd.f3 (OpenSpec.ofChange Rows.catalogChangesSpec) false w args) (Rows.catalogChangesSpec.post enc Tryd.prog Tryd.f3 false true false false) := by
  refine returns_of_both (C := Tryd.checked) (X := fun w _ => laidMetH Tryd.prog laidL w) (fun _ _ _ hh h => h.of_heap hh) ownK started (by kernel_rfl) Tryd.func3
    (ChangeSpec.witness_shaped (enc := enc) (C := Tryd.checked) (os := os) (X := fun w _ => laidMetH Tryd.prog laidL w) false (World.laidAll Tryd.prog os laidL) #[.agg #[.slice none 0 0], .agg #[.string (ByteArray.mk #[]), .slice none 0 0, .slice none 0 0], .string (ByteArray.mk #[])] 8 (World.laidAll_os _ _ _)
      (World.shaped_of_ZipB (by kernel_rfl) (by kernel_rfl)) (by kernel_rfl) (by kernel_rfl) (by kernel_rfl)
      (by rw [MakeChecks.laidMetH_plain _ _ _ (by kernel_rfl)]; exact laidMet_laidAll _ (by kernel_rfl) (by kernel_rfl))) ?_
  intro W base args ds gs before hval0 hW hL hS
  have hG := glob_of hL hS
  have hval : ∀ (j : Nat) t v, Tryd.f3.params[j]? = some t → args[j]? = some v → Value.okWide Tryd.prog W .any base t v := hval0
  have hW' := hW
  obtain ⟨p, q, hA0, hV, rfl, hfz, hnd⟩ := hW
  have hA : DataW.TrodAll enc Tryd.prog W 0 (fun _ => true) true Tryd.f3.params.toList args.toList ds p := hA0
  rw [Tryd.params3] at hA hval
  obtain ⟨v0, vs0, d0, ds0, p0, q0, hargs, rfl, rfl, h0, r0⟩ := trodAll_cons hA
  obtain ⟨v1, vs1, d1, ds1, p1, q1, rfl, rfl, rfl, h1, r1⟩ := trodAll_cons r0
  obtain ⟨v2, vs2, d2, ds2, p2, q2, rfl, rfl, rfl, h2, r2⟩ := trodAll_cons r1
  obtain ⟨rfl, rfl, rfl⟩ := trodAll_nil r2
  obtain rfl : args = #[v0, v1, v2] := by cases args; simp_all
  obtain ⟨rfl, rfl⟩ := trodVars_none hV
  have lt0 : ∀ x ∈ p0, x.block < W.heap.size := by obtain ⟨m, hm⟩ := h0; exact DataW.trod_lt m _ _ _ hm
  have lt1 : ∀ x ∈ p1, x.block < W.heap.size := by obtain ⟨m, hm⟩ := h1; exact DataW.trod_lt m _ _ _ hm
  have lt2 : ∀ x ∈ p2, x.block < W.heap.size := by obtain ⟨m, hm⟩ := h2; exact DataW.trod_lt m _ _ _ hm
  have k0 := hval 0 24 v0 rfl rfl
  have k1 := hval 1 28 v1 rfl rfl
  have k2 := hval 2 9 v2 rfl rfl
  clear hA0 hval0
  refine (walk_CatalogChanges W hG v0 d0 p0 base h0 k0 v1 d1 p1 base h1 k1 v2 d2 p2 base h2 k2).mono fun e W' ⟨he, bel⟩ => ?_
  subst he
  exact ⟨_, rfl, _, _, _, [], _, [], hW', trodAll_mk1 (shut_bool Tryd.underlying4 _), (trodAll_cons_mk (Below.trod laidOut (by kernel_rfl) (of_decide_eq_true (by kernel_rfl)) h0 bel lt0) (trodAll_cons_mk (Below.trod laidOut (by kernel_rfl) (of_decide_eq_true (by kernel_rfl)) h1 bel lt1) (trodAll_cons_mk (Below.trod laidOut (by kernel_rfl) (of_decide_eq_true (by kernel_rfl)) h2 bel lt2) trodAll_mk0))), rfl, bel.frame _, fun h => by cases h⟩
theorem over : Rows.catalogChangesRow.holds Tryd.pinned (OpenSpec.ofChange Rows.catalogChangesSpec) :=
  OpenClaim.holds_of_wide 3 Tryd.f3 rfl rfl rfl rfl rfl rfl rfl ⟨rfl, rfl, rfl, rfl, rfl⟩ rfl rfl rfl rfl rfl (by kernel_rfl) Tryd.func3 (by kernel_rfl)
    (of_decide_eq_true (by kernel_rfl)) (by unfold Func.isWrapper; first | (rw [if_pos (by decide +kernel)]; kernel_rfl) | (rw [if_neg (by decide +kernel)]; exact ⟨rfl, rfl⟩))
    (fun os started H enc _ => lifted os started H enc)
theorem proved : Rows.CatalogChangesCardSaid :=
  Claim7.holds_tied_plain_at .later [] [.data, .data, .data, .pinned, .pinned] true (true, "b4d9493f0f3dd77108f5edc3bac0ae7946f66dba4f9b6540b8985659c9f4e89a") false over (fun _ h => by cases h) (by kernel_rfl) (fun _ h => by cases h) catalogChanges_row_tie rfl ⟨rfl, rfl⟩ (by kernel_rfl) rfl
    (fun f fn hf hfn => by
      obtain rfl : f = 3 := Option.some.inj ((show Tryd.prog.funcNamed "bowsprit/bowspritlaw11.CatalogChanges" = some 3 by kernel_rfl).symm.trans hf) |>.symm
      obtain rfl : fn = Tryd.f3 := (Option.some.inj (Tryd.func3.symm.trans hfn)).symm
      exact ⟨by kernel_rfl, fun j t ht => by
        rw [Tryd.params3] at ht
        have hm : t ∈ [24, 28, 9] := by simpa using Array.mem_of_getElem? ht
        have hall : ([24, 28, 9].all fun u => !Tryd.prog.wantsStandIn u) = true := by kernel_rfl
        exact (show Tryd.prog.wantsStandIn t = false by simpa using List.all_eq_true.1 hall t hm)⟩)
    (by kernel_rfl)
#print axioms proved
end catalogChanges
end Go.Proofs.YtibmjfihfljiiaaDoor
