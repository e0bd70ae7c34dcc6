/-
  bowspritlaw11.CatalogBack: Parse of what Print lays is the catalog, Print of what Parse read the text. Of every catalog and every text.
-/
import Derived.Test.YtibmjfihfljiiaaDoorCatT
import Derived.Test.YtibmjfihfljiiaaDoorCards
import Derived.Test.YtibmjfihfljiiaaDoorTie
import Derived.Test.YtibmjfihfljiiaaDoorCatVC
import Derived.Test.YtibmjfihfljiiaaDoorCatPD
import Derived.SevenTiedAt
import Derived.ChangeOld
namespace Go.Proofs.YtibmjfihfljiiaaDoor
open Go.RowKit
open Go.Lib hiding intOf
set_option linter.unusedVariables false

set_option maxRecDepth 100000 in
set_option maxHeartbeats 4000000 in
theorem back_in (w : World) (u : Value) (l : List Tab) (text : ByteArray) (hL : Ts w u l) (hG : Glob w) (hl : l.length ≤ maxLen) (hb : TabsOK l) :
    Calls Tryd.prog 5 #[KV u, .string text] w fun e w' => e = .returned (.bool true) ∧ Ext [] w w' := by
  obtain ⟨a, c, rfl⟩ := hL.shape
  have hwk := fun U (x : Ext [] w U) => wakes_any U (hG.ext x)
  have hov := fun U (x : Ext [] w U) => over_any U (.slice a l.length c) l (hL.ext x) hl
  have e1 := (Ext.refl [] w).alloc (.cells #[.slice a l.length c] 24)
  have d1 := new_cells w [.slice a l.length c] 24 0 _ rfl
  cases ho : overB l
  · rw [ho] at hov
    by_cases h5 : 5000 < text.size
    · have q5 : decide ((5000 : Int) < (text.size : Int)) = true := by simp; omega
      go_enter Tryd.func5, Tryd.ntmps5
      go_wp2_with (first
        | (go_at_call 8; (with_reducible refine (hwk _ e1).mono ?_); rintro e w0 ⟨rfl, x0⟩; have d2 := cells_ext x0 d1)
        | (go_at_call 9; (with_reducible refine (hov _ (e1.trans x0)).mono ?_); rintro e w1 ⟨rfl, x1⟩))
      go_ret
      exact ⟨rfl, (e1.trans x0).trans x1⟩
    · have q5 : decide ((5000 : Int) < (text.size : Int)) = false := by simp; omega
      obtain ⟨m1, m2⟩ := over_small ho
      have hpt := fun U (x : Ext [] w U) => Parse_any U text (hG.ext x)
      unfold ParseEnd at hpt
      have hpr := fun U (x : Ext [] w U) => Print_any U (.slice a l.length c) l (hL.ext x) (hG.ext x) hb
      cases hc : isCat l
      · rw [hc] at hpr
        simp only [Bool.false_eq_true, if_false] at hpr
        clear hc
        rcases parseL_cases (L text) with ⟨D, p1, p2, p3⟩ | ⟨q, E, p1, p2⟩
        · rw [p1] at hpt
          have hpd := fun U (x : Ext [] w U) v (hv : Ts U v D) => Print_any U v D hv (hG.ext x) (cat_ok p2)
          rw [p2, p3] at hpd
          simp only [if_true, B_L] at hpd
          have hst := toList_eq text text
          rw [decide_eq_true rfl] at hst
          clear p1 p2 p3
          go_enter Tryd.func5, Tryd.ntmps5
          go_wp2_with (first
            | (go_at_call 8; (with_reducible refine (hwk _ e1).mono ?_); rintro e w0 ⟨rfl, x0⟩; have hx := e1.trans x0; have d := cells_ext x0 d1)
            | (go_at_call 9; (with_reducible refine (hov _ hx).mono ?_); rintro e w1 ⟨rfl, x1⟩; have hx := hx.trans x1; have d := cells_ext x1 d)
            | (go_at_call 26; (with_reducible refine (hpr _ hx).mono ?_); rintro e w2 ⟨rfl, x2⟩; have hx := hx.trans x2; have d := cells_ext x2 d)
            | (go_at_call 27; (with_reducible refine (hpt _ hx).mono ?_); rintro e w5 ⟨v5, rfl, hT5, x5⟩; obtain ⟨a5, c5, rfl⟩ := hT5.ts.shape; have e5 := (Ext.refl [] w5).alloc (.cells #[.slice a5 D.length c5] 24); have hx := (hx.trans x5).trans e5; have dm := new_cells w5 [.slice a5 D.length c5] 24 0 _ rfl; have hT5 := hT5.ts.ext e5)
            | (go_at_call 26; (with_reducible refine (hpd _ hx _ hT5).mono ?_); rintro e w6 ⟨rfl, x6⟩; have hx := hx.trans x6))
          go_ret
          exact ⟨rfl, hx⟩
        · rw [p1] at hpt
          have hEn : (E != 0) = true := by simpa using p2
          clear p1 p2
          go_enter Tryd.func5, Tryd.ntmps5
          go_wp2_with (first
            | (go_at_call 8; (with_reducible refine (hwk _ e1).mono ?_); rintro e w0 ⟨rfl, x0⟩; have hx := e1.trans x0; have d := cells_ext x0 d1)
            | (go_at_call 9; (with_reducible refine (hov _ hx).mono ?_); rintro e w1 ⟨rfl, x1⟩; have hx := hx.trans x1; have d := cells_ext x1 d)
            | (go_at_call 26; (with_reducible refine (hpr _ hx).mono ?_); rintro e w2 ⟨rfl, x2⟩; have hx := hx.trans x2; have d := cells_ext x2 d)
            | (go_at_call 27; (with_reducible refine (hpt _ hx).mono ?_); rintro e w5 ⟨v5, rfl, hT5, x5⟩; obtain ⟨a5, c5, rfl⟩ := hT5.ts.shape; have e5 := (Ext.refl [] w5).alloc (.cells #[.slice a5 0 c5] 24); have hx := (hx.trans x5).trans e5; have dm := new_cells w5 [.slice a5 0 c5] 24 0 _ rfl; have hT5 := hT5.ts.ext e5))
          go_ret
          exact ⟨rfl, hx⟩
      · rw [hc] at hpr
        simp only [if_true] at hpr
        have hsz : (B (printC l)).size = (printC l).length := rfl
        by_cases hlen : (printC l).length ≤ 1000
        · have hps := fun U (x : Ext [] w U) => Parse_any U (B (printC l)) (hG.ext x)
          unfold ParseEnd at hps
          rw [L_B, parseL_print hc hlen] at hps
          have hsm := fun U va vb (ha : Ts U va l) (hb' : Ts U vb l) => Same_any U va vb l l ha hb' hl hl hb hb
          rw [decide_eq_true rfl] at hsm
          have q6 : decide (((printC l).length : Int) ≤ 1000) = true := by simp; omega
          generalize printC l = S at *
          clear hc
          rcases parseL_cases (L text) with ⟨D, p1, p2, p3⟩ | ⟨q, E, p1, p2⟩
          · rw [p1] at hpt
            have hpd := fun U (x : Ext [] w U) v (hv : Ts U v D) => Print_any U v D hv (hG.ext x) (cat_ok p2)
            rw [p2, p3] at hpd
            simp only [if_true, B_L] at hpd
            have hst := toList_eq text text
            rw [decide_eq_true rfl] at hst
            clear p1 p2 p3
            go_enter Tryd.func5, Tryd.ntmps5
            go_wp2_with (first
              | (go_at_call 8; (with_reducible refine (hwk _ e1).mono ?_); rintro e w0 ⟨rfl, x0⟩; have hx := e1.trans x0; have d := cells_ext x0 d1)
              | (go_at_call 9; (with_reducible refine (hov _ hx).mono ?_); rintro e w1 ⟨rfl, x1⟩; have hx := hx.trans x1; have d := cells_ext x1 d)
              | (go_at_call 26; (with_reducible refine (hpr _ hx).mono ?_); rintro e w2 ⟨rfl, x2⟩; have hx := hx.trans x2; have d := cells_ext x2 d)
              | (go_at_call 27; (with_reducible refine (hps _ hx).mono ?_); rintro e w3 ⟨v3, rfl, hT3, x3⟩; obtain ⟨a3, c3, rfl⟩ := hT3.ts.shape; have e3 := (Ext.refl [] w3).alloc (.cells #[.slice a3 l.length c3] 24); have hx := (hx.trans x3).trans e3; have d := cells_ext e3 (cells_ext x3 d); have dn := new_cells w3 [.slice a3 l.length c3] 24 0 _ rfl; have hT3 := hT3.ts.ext e3)
              | (go_at_call 21; (with_reducible refine (hsm _ _ _ hT3 (hL.ext hx)).mono ?_); rintro e w4 ⟨rfl, x4⟩; have hx := hx.trans x4; have d := cells_ext x4 d)
              | (go_at_call 27; (with_reducible refine (hpt _ hx).mono ?_); rintro e w5 ⟨v5, rfl, hT5, x5⟩; obtain ⟨a5, c5, rfl⟩ := hT5.ts.shape; have e5 := (Ext.refl [] w5).alloc (.cells #[.slice a5 D.length c5] 24); have hx := (hx.trans x5).trans e5; have dm := new_cells w5 [.slice a5 D.length c5] 24 0 _ rfl; have hT5 := hT5.ts.ext e5)
              | (go_at_call 26; (with_reducible refine (hpd _ hx _ hT5).mono ?_); rintro e w6 ⟨rfl, x6⟩; have hx := hx.trans x6))
            go_ret
            exact ⟨rfl, hx⟩
          · rw [p1] at hpt
            have hEn : (E != 0) = true := by simpa using p2
            clear p1 p2
            go_enter Tryd.func5, Tryd.ntmps5
            go_wp2_with (first
              | (go_at_call 8; (with_reducible refine (hwk _ e1).mono ?_); rintro e w0 ⟨rfl, x0⟩; have hx := e1.trans x0; have d := cells_ext x0 d1)
              | (go_at_call 9; (with_reducible refine (hov _ hx).mono ?_); rintro e w1 ⟨rfl, x1⟩; have hx := hx.trans x1; have d := cells_ext x1 d)
              | (go_at_call 26; (with_reducible refine (hpr _ hx).mono ?_); rintro e w2 ⟨rfl, x2⟩; have hx := hx.trans x2; have d := cells_ext x2 d)
              | (go_at_call 27; (with_reducible refine (hps _ hx).mono ?_); rintro e w3 ⟨v3, rfl, hT3, x3⟩; obtain ⟨a3, c3, rfl⟩ := hT3.ts.shape; have e3 := (Ext.refl [] w3).alloc (.cells #[.slice a3 l.length c3] 24); have hx := (hx.trans x3).trans e3; have d := cells_ext e3 (cells_ext x3 d); have dn := new_cells w3 [.slice a3 l.length c3] 24 0 _ rfl; have hT3 := hT3.ts.ext e3)
              | (go_at_call 21; (with_reducible refine (hsm _ _ _ hT3 (hL.ext hx)).mono ?_); rintro e w4 ⟨rfl, x4⟩; have hx := hx.trans x4; have d := cells_ext x4 d)
              | (go_at_call 27; (with_reducible refine (hpt _ hx).mono ?_); rintro e w5 ⟨v5, rfl, hT5, x5⟩; obtain ⟨a5, c5, rfl⟩ := hT5.ts.shape; have e5 := (Ext.refl [] w5).alloc (.cells #[.slice a5 0 c5] 24); have hx := (hx.trans x5).trans e5; have dm := new_cells w5 [.slice a5 0 c5] 24 0 _ rfl; have hT5 := hT5.ts.ext e5))
            go_ret
            exact ⟨rfl, hx⟩
        · have q6 : decide (((printC l).length : Int) ≤ 1000) = false := by simp; omega
          generalize printC l = S at *
          clear hc
          rcases parseL_cases (L text) with ⟨D, p1, p2, p3⟩ | ⟨q, E, p1, p2⟩
          · rw [p1] at hpt
            have hpd := fun U (x : Ext [] w U) v (hv : Ts U v D) => Print_any U v D hv (hG.ext x) (cat_ok p2)
            rw [p2, p3] at hpd
            simp only [if_true, B_L] at hpd
            have hst := toList_eq text text
            rw [decide_eq_true rfl] at hst
            clear p1 p2 p3
            go_enter Tryd.func5, Tryd.ntmps5
            go_wp2_with (first
              | (go_at_call 8; (with_reducible refine (hwk _ e1).mono ?_); rintro e w0 ⟨rfl, x0⟩; have hx := e1.trans x0; have d := cells_ext x0 d1)
              | (go_at_call 9; (with_reducible refine (hov _ hx).mono ?_); rintro e w1 ⟨rfl, x1⟩; have hx := hx.trans x1; have d := cells_ext x1 d)
              | (go_at_call 26; (with_reducible refine (hpr _ hx).mono ?_); rintro e w2 ⟨rfl, x2⟩; have hx := hx.trans x2; have d := cells_ext x2 d)
              | (go_at_call 27; (with_reducible refine (hpt _ hx).mono ?_); rintro e w5 ⟨v5, rfl, hT5, x5⟩; obtain ⟨a5, c5, rfl⟩ := hT5.ts.shape; have e5 := (Ext.refl [] w5).alloc (.cells #[.slice a5 D.length c5] 24); have hx := (hx.trans x5).trans e5; have dm := new_cells w5 [.slice a5 D.length c5] 24 0 _ rfl; have hT5 := hT5.ts.ext e5)
              | (go_at_call 26; (with_reducible refine (hpd _ hx _ hT5).mono ?_); rintro e w6 ⟨rfl, x6⟩; have hx := hx.trans x6))
            go_ret
            exact ⟨rfl, hx⟩
          · rw [p1] at hpt
            have hEn : (E != 0) = true := by simpa using p2
            clear p1 p2
            go_enter Tryd.func5, Tryd.ntmps5
            go_wp2_with (first
              | (go_at_call 8; (with_reducible refine (hwk _ e1).mono ?_); rintro e w0 ⟨rfl, x0⟩; have hx := e1.trans x0; have d := cells_ext x0 d1)
              | (go_at_call 9; (with_reducible refine (hov _ hx).mono ?_); rintro e w1 ⟨rfl, x1⟩; have hx := hx.trans x1; have d := cells_ext x1 d)
              | (go_at_call 26; (with_reducible refine (hpr _ hx).mono ?_); rintro e w2 ⟨rfl, x2⟩; have hx := hx.trans x2; have d := cells_ext x2 d)
              | (go_at_call 27; (with_reducible refine (hpt _ hx).mono ?_); rintro e w5 ⟨v5, rfl, hT5, x5⟩; obtain ⟨a5, c5, rfl⟩ := hT5.ts.shape; have e5 := (Ext.refl [] w5).alloc (.cells #[.slice a5 0 c5] 24); have hx := (hx.trans x5).trans e5; have dm := new_cells w5 [.slice a5 0 c5] 24 0 _ rfl; have hT5 := hT5.ts.ext e5))
            go_ret
            exact ⟨rfl, hx⟩
  · rw [ho] at hov
    go_enter Tryd.func5, Tryd.ntmps5
    go_wp2_with (first
      | (go_at_call 8; (with_reducible refine (hwk _ e1).mono ?_); rintro e w0 ⟨rfl, x0⟩; have d2 := cells_ext x0 d1)
      | (go_at_call 9; (with_reducible refine (hov _ (e1.trans x0)).mono ?_); rintro e w1 ⟨rfl, x1⟩))
    go_ret
    exact ⟨rfl, (e1.trans x0).trans x1⟩
set_option maxRecDepth 100000 in
theorem walk_CatalogBack {H : Type} {enc : TypeId × Value → H} (W : World) (hG : Glob W) (v0 : Value) (d0 : DataW H) (p0 : List MemPlace) (base0 : Nat) (h0 : DataW.Trod enc Tryd.prog W 0 (fun _ => true) true 24 v0 d0 p0) (k0 : Value.okWide Tryd.prog W .any base0 24 v0) (v1 : Value) (d1 : DataW H) (p1 : List MemPlace) (base1 : Nat) (h1 : DataW.Trod enc Tryd.prog W 0 (fun _ => true) true 9 v1 d1 p1) (k1 : Value.okWide Tryd.prog W .any base1 9 v1) :
    Calls Tryd.prog 5 #[v0, v1] W fun e w' => e = .returned (.bool true) ∧ Below W.heap.size W w' := by
  obtain ⟨u, l, rfl, hT, hl, hf⟩ := read_cat h0 k0
  obtain ⟨s, rfl⟩ := WideShapes.okWide_string Tryd.underlying9 k1
  exact (back_in W u l s hT hG hl (fit_ok hf)).mono fun e w' r => ⟨r.1, r.2.below⟩
namespace catalogBack
open Go.ChangeShapes Go.WideShapes Go.ChangeAt Go.RowKit
set_option maxRecDepth 100000 in
theorem lifted (os : Os) (started : os.Started) (H : Type) (enc : TypeId × Value → H) :
    ReturnsInHanded {} Tryd.checked os 5 .any (fun w args => (Rows.catalogBackSpec.pre enc Tryd.prog Tryd.f5 Rows.catalogBackRow.domain false w args ∧ laidMetH Tryd.prog laidL w) ∧ sizedMet enc Tryd.prog Tryd.f5 (OpenSpec.ofChange Rows.catalogBackSpec) false w args) (Rows.catalogBackSpec.post enc Tryd.prog Tryd.f5 false true false false) := by
  refine returns_of_both (C := Tryd.checked) (X := fun w _ => laidMetH Tryd.prog laidL w) (fun _ _ _ hh h => h.of_heap hh) ownK started (by kernel_rfl) Tryd.func5
    (ChangeSpec.witness_shaped (enc := enc) (C := Tryd.checked) (os := os) (X := fun w _ => laidMetH Tryd.prog laidL w) false (World.laidAll Tryd.prog os laidL) #[.agg #[.slice none 0 0], .string (ByteArray.mk #[])] 8 (World.laidAll_os _ _ _)
      (World.shaped_of_ZipB (by kernel_rfl) (by kernel_rfl)) (by kernel_rfl) (by kernel_rfl) (by kernel_rfl)
      (by rw [MakeChecks.laidMetH_plain _ _ _ (by kernel_rfl)]; exact laidMet_laidAll _ (by kernel_rfl) (by kernel_rfl))) ?_
  intro W base args ds gs before hval0 hW hL hS
  have hG := glob_of hL hS
  have hval : ∀ (j : Nat) t v, Tryd.f5.params[j]? = some t → args[j]? = some v → Value.okWide Tryd.prog W .any base t v := hval0
  have hW' := hW
  obtain ⟨p, q, hA0, hV, rfl, hfz, hnd⟩ := hW
  have hA : DataW.TrodAll enc Tryd.prog W 0 (fun _ => true) true Tryd.f5.params.toList args.toList ds p := hA0
  rw [Tryd.params5] at hA hval
  obtain ⟨v0, vs0, d0, ds0, p0, q0, hargs, rfl, rfl, h0, r0⟩ := trodAll_cons hA
  obtain ⟨v1, vs1, d1, ds1, p1, q1, rfl, rfl, rfl, h1, r1⟩ := trodAll_cons r0
  obtain ⟨rfl, rfl, rfl⟩ := trodAll_nil r1
  obtain rfl : args = #[v0, v1] := by cases args; simp_all
  obtain ⟨rfl, rfl⟩ := trodVars_none hV
  have lt0 : ∀ x ∈ p0, x.block < W.heap.size := by obtain ⟨m, hm⟩ := h0; exact DataW.trod_lt m _ _ _ hm
  have lt1 : ∀ x ∈ p1, x.block < W.heap.size := by obtain ⟨m, hm⟩ := h1; exact DataW.trod_lt m _ _ _ hm
  have k0 := hval 0 24 v0 rfl rfl
  have k1 := hval 1 9 v1 rfl rfl
  clear hA0 hval0
  refine (walk_CatalogBack W hG v0 d0 p0 base h0 k0 v1 d1 p1 base h1 k1).mono fun e W' ⟨he, bel⟩ => ?_
  subst he
  exact ⟨_, rfl, _, _, _, [], _, [], hW', trodAll_mk1 (shut_bool Tryd.underlying4 _), (trodAll_cons_mk (Below.trod laidOut (by kernel_rfl) (of_decide_eq_true (by kernel_rfl)) h0 bel lt0) (trodAll_cons_mk (Below.trod laidOut (by kernel_rfl) (of_decide_eq_true (by kernel_rfl)) h1 bel lt1) trodAll_mk0)), rfl, bel.frame _, fun h => by cases h⟩
theorem over : Rows.catalogBackRow.holds Tryd.pinned (OpenSpec.ofChange Rows.catalogBackSpec) :=
  OpenClaim.holds_of_wide 5 Tryd.f5 rfl rfl rfl rfl rfl rfl rfl ⟨rfl, rfl, rfl, rfl, rfl⟩ rfl rfl rfl rfl rfl (by kernel_rfl) Tryd.func5 (by kernel_rfl)
    (of_decide_eq_true (by kernel_rfl)) (by unfold Func.isWrapper; first | (rw [if_pos (by decide +kernel)]; kernel_rfl) | (rw [if_neg (by decide +kernel)]; exact ⟨rfl, rfl⟩))
    (fun os started H enc _ => lifted os started H enc)
theorem proved : Rows.CatalogBackCardSaid :=
  Claim7.holds_tied_plain_at .later [] [.data, .data, .data, .pinned, .pinned] true (true, "b4d9493f0f3dd77108f5edc3bac0ae7946f66dba4f9b6540b8985659c9f4e89a") false over (fun _ h => by cases h) (by kernel_rfl) (fun _ h => by cases h) catalogBack_row_tie rfl ⟨rfl, rfl⟩ (by kernel_rfl) rfl
    (fun f fn hf hfn => by
      obtain rfl : f = 5 := Option.some.inj ((show Tryd.prog.funcNamed "bowsprit/bowspritlaw11.CatalogBack" = some 5 by kernel_rfl).symm.trans hf) |>.symm
      obtain rfl : fn = Tryd.f5 := (Option.some.inj (Tryd.func5.symm.trans hfn)).symm
      exact ⟨by kernel_rfl, fun j t ht => by
        rw [Tryd.params5] at ht
        have hm : t ∈ [24, 9] := by simpa using Array.mem_of_getElem? ht
        have hall : ([24, 9].all fun u => !Tryd.prog.wantsStandIn u) = true := by kernel_rfl
        exact (show Tryd.prog.wantsStandIn t = false by simpa using List.all_eq_true.1 hall t hm)⟩)
    (by kernel_rfl)
#print axioms proved
end catalogBack
end Go.Proofs.YtibmjfihfljiiaaDoor
