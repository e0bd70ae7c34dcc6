/-
  bowspritlaw11.CatalogReads: what Print lays of a catalog, and what Parse reads of a text, is the document's answer. Of every catalog and every text.
-/
import Derived.Test.YtjmfcjidhmaibaaGreatDoorCatT
import Derived.Test.YtjmfcjidhmaibaaGreatDoorCards
import Derived.Test.YtjmfcjidhmaibaaGreatDoorTie
import Derived.Test.YtjmfcjidhmaibaaGreatDoorCatVC
import Derived.Test.YtjmfcjidhmaibaaGreatDoorCatPD
import Derived.Test.YtjmfcjidhmaibaaGreatDoorCatRF
import Derived.Test.YtjmfcjidhmaibaaGreatDoorCatRL
import Derived.SevenTiedAt
import Derived.ChangeOld
namespace Go.Proofs.YtjmfcjidhmaibaaGreatDoor
open Go.RowKit
open Go.Lib hiding intOf
set_option linter.unusedVariables false

theorem parseL_small (l : List UInt8) : (parseL l).1.length ≤ 4 ∧ TabsOK (parseL l).1 := by
  rcases parseL_cases l with ⟨D, h1, h2, _⟩ | ⟨q, e, h1, _⟩
  · rw [h1]
    exact ⟨cat_len h2, cat_ok h2⟩
  · rw [h1]
    exact ⟨by simp, fun t ht => by simp at ht⟩
theorem eq_self (k : Int) : (k == k) = true := by simp
set_option maxRecDepth 100000 in
set_option maxHeartbeats 4000000 in
theorem reads_in (w : World) (u : Value) (l : List Tab) (text : ByteArray) (hL : Ts w u l) (hG : Glob w) (hl : l.length ≤ maxLen) (hb : TabsOK l) :
    Calls Tryz.prog 3 #[KV u, .string text] w fun e w' => e = .returned (.bool true) ∧ Ext [] w w' := by
  obtain ⟨a, c, rfl⟩ := hL.shape
  have hwk := fun U (x : Ext [] w U) => wakes_any U (hG.ext x)
  have hov := fun U (x : Ext [] w U) => over_any U (.slice a l.length c) l (hL.ext x) hl
  have e1 := (Ext.refl [] w).alloc (.cells #[.slice a l.length c] 24)
  have d1 := new_cells w [.slice a l.length c] 24 0 _ rfl
  cases ho : overB l
  · rw [ho] at hov
    by_cases h5 : 5000 < text.size
    · have q5 : decide ((5000 : Int) < (text.size : Int)) = true := by simp; omega
      go_enter Tryz.func3, Tryz.ntmps3
      go_wp2_with (first | (go_at_call 4; (with_reducible refine (hwk _ e1).mono ?_); rintro e w0 ⟨rfl, x0⟩; have hx := e1.trans x0; have d := cells_ext x0 d1) | (go_at_call 5; (with_reducible refine (hov _ hx).mono ?_); rintro e w1 ⟨rfl, x1⟩; have hx := hx.trans x1; have d := cells_ext x1 d))
      go_ret
      exact ⟨rfl, hx⟩
    · have q5 : decide ((5000 : Int) < (text.size : Int)) = false := by simp; omega
      obtain ⟨m1, m2⟩ := over_small ho
      have hcp := fun U (x : Ext [] w U) => copied_any [] U (by simp) (.slice a l.length c) l (hL.ext x) m1 m2
      have hpr := fun U (x : Ext [] w U) v (hv : Ts U v l) => Print_any U v l hv (hG.ext x) hb
      have hrr := fun U (x : Ext [] w U) => rRight_any U (.slice a l.length c) l (hL.ext x) hb hl
      have hpt := fun U (x : Ext [] w U) => Parse_any U text (hG.ext x)
      have hrt := fun (U : World) (x : Ext [] w U) => rParse_any U text
      unfold ParseEnd at hpt
      unfold RParse at hrt
      obtain ⟨s1, s2⟩ := parseL_small (L text)
      generalize parseL (L text) = R at *
      obtain ⟨D, q, E⟩ := R
      dsimp only at *
      have s3 : D.length ≤ maxLen := by unfold maxLen; omega
      have hsm := fun U va vb (ha : Ts U va D) (hb' : Ts U vb D) => rSame_any U va vb D D ha hb' s3 s3 s2 s2
      rw [decide_eq_true rfl] at hsm
      have k1 := eq_self E
      have k2 := eq_self (q : Int)
      clear s1 ho m1 m2
      cases hc : isCat l
      · rw [hc] at hpr hrr
        simp only [Bool.false_eq_true, if_false] at hpr
        clear hc
        have hem : (B ([] : List UInt8)).toList.isEmpty = true := by rw [empty_eq]; rfl
        go_enter Tryz.func3, Tryz.ntmps3
        go_wp2_with (first | (go_at_call 4; (with_reducible refine (hwk _ e1).mono ?_); rintro e w0 ⟨rfl, x0⟩; have hx := e1.trans x0; have d := cells_ext x0 d1) | (go_at_call 5; (with_reducible refine (hov _ hx).mono ?_); rintro e w1 ⟨rfl, x1⟩; have hx := hx.trans x1; have d := cells_ext x1 d) | (go_at_call 7; (with_reducible refine (hcp _ hx).mono ?_); rintro e w2 ⟨⟨v2, rfl, hT2⟩, x2⟩; have hx := hx.trans x2; have d := cells_ext x2 d) | (go_at_call 6; (with_reducible refine (hpr _ hx _ hT2.ts).mono ?_); rintro e w3 ⟨rfl, x3⟩; have hx := hx.trans x3; have d := cells_ext x3 d) | (go_at_call 8; (with_reducible refine (hrr _ hx).mono ?_); rintro e w4 ⟨rfl, x4⟩; have hx := hx.trans x4; have d := cells_ext x4 d) | (go_at_call 10; (with_reducible refine (hpt _ hx).mono ?_); rintro e w6 ⟨v6, rfl, hT6, x6⟩; obtain ⟨a6, c6, rfl⟩ := hT6.ts.shape; have e6 := (Ext.refl [] w6).alloc (.cells #[.slice a6 D.length c6] 24); have hx := (hx.trans x6).trans e6; have dn := new_cells w6 [.slice a6 D.length c6] 24 0 _ rfl; have hT6 := hT6.ts.ext e6) | (go_at_call 11; (with_reducible refine (hrt _ hx).mono ?_); rintro e w7 ⟨v7, rfl, hT7, x7⟩; obtain ⟨a7, c7, rfl⟩ := hT7.shape; have e7 := (Ext.refl [] w7).alloc (.cells #[.slice a7 D.length c7] 24); have hx := (hx.trans x7).trans e7; have dm := new_cells w7 [.slice a7 D.length c7] 24 0 _ rfl; have dn := cells_ext e7 (cells_ext x7 dn); have hT6 := (hT6.ext x7).ext e7; have hT7 := hT7.ext e7) | (go_at_call 12; (with_reducible refine (hsm _ _ _ hT6 hT7).mono ?_); rintro e w8 ⟨rfl, x8⟩; have hx := hx.trans x8))
        go_ret
        exact ⟨rfl, hx⟩
      · have hrp := fun U (x : Ext [] w U) => rPrint_any U (.slice a l.length c) l (hL.ext x) hc
        rw [hc] at hpr hrr
        simp only [if_true] at hpr
        clear hc
        have hst := toList_eq (B (printC l)) (B (printC l))
        rw [decide_eq_true rfl] at hst
        generalize B (printC l) = S at *
        go_enter Tryz.func3, Tryz.ntmps3
        go_wp2_with (first | (go_at_call 4; (with_reducible refine (hwk _ e1).mono ?_); rintro e w0 ⟨rfl, x0⟩; have hx := e1.trans x0; have d := cells_ext x0 d1) | (go_at_call 5; (with_reducible refine (hov _ hx).mono ?_); rintro e w1 ⟨rfl, x1⟩; have hx := hx.trans x1; have d := cells_ext x1 d) | (go_at_call 7; (with_reducible refine (hcp _ hx).mono ?_); rintro e w2 ⟨⟨v2, rfl, hT2⟩, x2⟩; have hx := hx.trans x2; have d := cells_ext x2 d) | (go_at_call 6; (with_reducible refine (hpr _ hx _ hT2.ts).mono ?_); rintro e w3 ⟨rfl, x3⟩; have hx := hx.trans x3; have d := cells_ext x3 d) | (go_at_call 8; (with_reducible refine (hrr _ hx).mono ?_); rintro e w4 ⟨rfl, x4⟩; have hx := hx.trans x4; have d := cells_ext x4 d) | (go_at_call 9; (with_reducible refine (hrp _ hx).mono ?_); rintro e w5 ⟨rfl, x5⟩; have hx := hx.trans x5; have d := cells_ext x5 d) | (go_at_call 10; (with_reducible refine (hpt _ hx).mono ?_); rintro e w6 ⟨v6, rfl, hT6, x6⟩; obtain ⟨a6, c6, rfl⟩ := hT6.ts.shape; have e6 := (Ext.refl [] w6).alloc (.cells #[.slice a6 D.length c6] 24); have hx := (hx.trans x6).trans e6; have dn := new_cells w6 [.slice a6 D.length c6] 24 0 _ rfl; have hT6 := hT6.ts.ext e6) | (go_at_call 11; (with_reducible refine (hrt _ hx).mono ?_); rintro e w7 ⟨v7, rfl, hT7, x7⟩; obtain ⟨a7, c7, rfl⟩ := hT7.shape; have e7 := (Ext.refl [] w7).alloc (.cells #[.slice a7 D.length c7] 24); have hx := (hx.trans x7).trans e7; have dm := new_cells w7 [.slice a7 D.length c7] 24 0 _ rfl; have dn := cells_ext e7 (cells_ext x7 dn); have hT6 := (hT6.ext x7).ext e7; have hT7 := hT7.ext e7) | (go_at_call 12; (with_reducible refine (hsm _ _ _ hT6 hT7).mono ?_); rintro e w8 ⟨rfl, x8⟩; have hx := hx.trans x8))
        go_ret
        exact ⟨rfl, hx⟩
  · rw [ho] at hov
    go_enter Tryz.func3, Tryz.ntmps3
    go_wp2_with (first | (go_at_call 4; (with_reducible refine (hwk _ e1).mono ?_); rintro e w0 ⟨rfl, x0⟩; have hx := e1.trans x0; have d := cells_ext x0 d1) | (go_at_call 5; (with_reducible refine (hov _ hx).mono ?_); rintro e w1 ⟨rfl, x1⟩; have hx := hx.trans x1; have d := cells_ext x1 d))
    go_ret
    exact ⟨rfl, hx⟩
set_option maxRecDepth 100000 in
theorem walk_CatalogReads {H : Type} {enc : TypeId × Value → H} (W : World) (hG : Glob W) (v0 : Value) (d0 : DataW H) (p0 : List MemPlace) (base0 : Nat) (h0 : DataW.Trod enc Tryz.prog W 0 (fun _ => true) true 24 v0 d0 p0) (k0 : Value.okWide Tryz.prog W .any base0 24 v0) (v1 : Value) (d1 : DataW H) (p1 : List MemPlace) (base1 : Nat) (h1 : DataW.Trod enc Tryz.prog W 0 (fun _ => true) true 9 v1 d1 p1) (k1 : Value.okWide Tryz.prog W .any base1 9 v1) :
    Calls Tryz.prog 3 #[v0, v1] W fun e w' => e = .returned (.bool true) ∧ Below W.heap.size W w' := by
  obtain ⟨u, l, rfl, hT, hl, hf⟩ := read_cat h0 k0
  obtain ⟨s, rfl⟩ := WideShapes.okWide_string Tryz.underlying9 k1
  exact (reads_in W u l s hT hG hl (fit_ok hf)).mono fun e w' r => ⟨r.1, r.2.below⟩
namespace catalogReads
open Go.ChangeShapes Go.WideShapes Go.ChangeAt Go.RowKit
set_option maxRecDepth 100000 in
theorem lifted (os : Os) (started : os.Started) (H : Type) (enc : TypeId × Value → H) :
    ReturnsInHanded {} Tryz.checked os 3 .any (fun w args => (Rows.catalogReadsSpec.pre enc Tryz.prog Tryz.f3 Rows.catalogReadsRow.domain false w args ∧ laidMetH Tryz.prog laidL w) ∧ sizedMet enc Tryz.prog Tryz.f3 (OpenSpec.ofChange Rows.catalogReadsSpec) false w args) (Rows.catalogReadsSpec.post enc Tryz.prog Tryz.f3 false true false false) := by
  refine returns_of_both (C := Tryz.checked) (X := fun w _ => laidMetH Tryz.prog laidL w) (fun _ _ _ hh h => h.of_heap hh) ownK started (by kernel_rfl) Tryz.func3
    (ChangeSpec.witness_shaped (enc := enc) (C := Tryz.checked) (os := os) (X := fun w _ => laidMetH Tryz.prog laidL w) false (World.laidAll Tryz.prog os laidL) #[.agg #[.slice none 0 0], .string (ByteArray.mk #[])] 8 (World.laidAll_os _ _ _)
      (World.shaped_of_ZipB (by kernel_rfl) (by kernel_rfl)) (by kernel_rfl) (by kernel_rfl) (by kernel_rfl)
      (by rw [MakeChecks.laidMetH_plain _ _ _ (by kernel_rfl)]; exact laidMet_laidAll _ (by kernel_rfl) (by kernel_rfl))) ?_
  intro W base args ds gs before hval0 hW hL hS
  have hG := glob_of hL hS
  have hval : ∀ (j : Nat) t v, Tryz.f3.params[j]? = some t → args[j]? = some v → Value.okWide Tryz.prog W .any base t v := hval0
  have hW' := hW
  obtain ⟨p, q, hA0, hV, rfl, hfz, hnd⟩ := hW
  have hA : DataW.TrodAll enc Tryz.prog W 0 (fun _ => true) true Tryz.f3.params.toList args.toList ds p := hA0
  rw [Tryz.params3] at hA hval
  obtain ⟨v0, vs0, d0, ds0, p0, q0, hargs, rfl, rfl, h0, r0⟩ := trodAll_cons hA
  obtain ⟨v1, vs1, d1, ds1, p1, q1, rfl, rfl, rfl, h1, r1⟩ := trodAll_cons r0
  obtain ⟨rfl, rfl, rfl⟩ := trodAll_nil r1
  obtain rfl : args = #[v0, v1] := by cases args; simp_all
  obtain ⟨rfl, rfl⟩ := trodVars_none hV
  have lt0 : ∀ x ∈ p0, x.block < W.heap.size := by obtain ⟨m, hm⟩ := h0; exact DataW.trod_lt m _ _ _ hm
  have lt1 : ∀ x ∈ p1, x.block < W.heap.size := by obtain ⟨m, hm⟩ := h1; exact DataW.trod_lt m _ _ _ hm
  have k0 := hval 0 24 v0 rfl rfl
  have k1 := hval 1 9 v1 rfl rfl
  clear hA0 hval0
  refine (walk_CatalogReads W hG v0 d0 p0 base h0 k0 v1 d1 p1 base h1 k1).mono fun e W' ⟨he, bel⟩ => ?_
  subst he
  exact ⟨_, rfl, _, _, _, [], _, [], hW', trodAll_mk1 (shut_bool Tryz.underlying4 _), (trodAll_cons_mk (Below.trod laidOut (by kernel_rfl) (of_decide_eq_true (by kernel_rfl)) h0 bel lt0) (trodAll_cons_mk (Below.trod laidOut (by kernel_rfl) (of_decide_eq_true (by kernel_rfl)) h1 bel lt1) trodAll_mk0)), rfl, bel.frame _, fun h => by cases h⟩
theorem over : Rows.catalogReadsRow.holds Tryz.pinned (OpenSpec.ofChange Rows.catalogReadsSpec) :=
  OpenClaim.holds_of_wide 3 Tryz.f3 rfl rfl rfl rfl rfl rfl rfl ⟨rfl, rfl, rfl, rfl, rfl⟩ rfl rfl rfl rfl rfl (by kernel_rfl) Tryz.func3 (by kernel_rfl)
    (of_decide_eq_true (by kernel_rfl)) (by unfold Func.isWrapper; first | (rw [if_pos (by decide +kernel)]; kernel_rfl) | (rw [if_neg (by decide +kernel)]; exact ⟨rfl, rfl⟩))
    (fun os started H enc _ => lifted os started H enc)
theorem proved : Rows.CatalogReadsCardSaid :=
  Claim7.holds_tied_plain_at .later [] [.data, .data, .data, .pinned, .pinned] true (true, "eca73757220cc842593b71c0a3b6596ecddc21a1bd045ab721df21c2b2d909fd") false over (fun _ h => by cases h) (by kernel_rfl) (fun _ h => by cases h) catalogReads_row_tie rfl ⟨rfl, rfl⟩ (by kernel_rfl) rfl
    (fun f fn hf hfn => by
      obtain rfl : f = 3 := Option.some.inj ((show Tryz.prog.funcNamed "bowsprit/bowspritlaw11.CatalogReads" = some 3 by kernel_rfl).symm.trans hf) |>.symm
      obtain rfl : fn = Tryz.f3 := (Option.some.inj (Tryz.func3.symm.trans hfn)).symm
      exact ⟨by kernel_rfl, fun j t ht => by
        rw [Tryz.params3] at ht
        have hm : t ∈ [24, 9] := by simpa using Array.mem_of_getElem? ht
        have hall : ([24, 9].all fun u => !Tryz.prog.wantsStandIn u) = true := by kernel_rfl
        exact (show Tryz.prog.wantsStandIn t = false by simpa using List.all_eq_true.1 hall t hm)⟩)
    (by kernel_rfl)
#print axioms proved
end catalogReads
end Go.Proofs.YtjmfcjidhmaibaaGreatDoor
