/-
  bowspritlaw11.CatalogStays: what was added and dropped leads back; no two tables ever have one name. Of every list of tables.
-/
import Derived.Test.YtibmjfihfljiiaaDoorCatT
import Derived.Test.YtibmjfihfljiiaaDoorCards
import Derived.Test.YtibmjfihfljiiaaDoorTie
import Derived.Test.YtibmjfihfljiiaaDoorCatQ
import Derived.Test.YtibmjfihfljiiaaDoorCatR
import Derived.Test.YtibmjfihfljiiaaDoorCatV
import Derived.SevenTiedAt
import Derived.ChangeOld
namespace Go.Proofs.YtibmjfihfljiiaaDoor
open Go.RowKit
open Go.Lib hiding intOf
set_option linter.unusedVariables false

theorem one_lt {cb n : Nat} (h : cb < n) : ∀ i ∈ [cb], i < n := by
  intro i hi
  obtain rfl : i = cb := by simpa using hi
  exact h
set_option maxRecDepth 100000 in
set_option maxHeartbeats 4000000 in
theorem stays_in (w : World) (v : Value) (l : List Tab) (hL : Ts w v l) (hG : Glob w) (hl : l.length ≤ maxLen) (hb : TabsOK l) :
    Calls Tryd.prog 7 #[v] w fun e w' => e = .returned (.bool true) ∧ Ext [] w w' := by
  obtain ⟨a, c, rfl⟩ := hL.shape
  unfold maxLen at hl
  go_enter Tryd.func7, Tryd.ntmps7
  go_wp2_with (go_at_call 8; refine (wakes_any _ hG).mono ?_; rintro e w0 ⟨rfl, h0⟩)
  have hcb := h0.size
  have hB0 := Blk.new w0 [.slice none 0 0] 24
  have hE0 := h0.alloc (.cells #[.slice none 0 0] 24)
  generalize w0.alloc (.cells #[.slice none 0 0] 24) = W0 at *
  generalize w0.heap.size = cb at *
  go_loopw [22] (fun i wr => ∃ (k : Nat) (C : List Tab) (ac : Option Addr) (mc : Nat), k ≤ l.length ∧ k ≤ 20 ∧ i = .int .i64 k ∧ Ext [] w wr ∧ Blk wr cb 24 [.slice ac C.length mc] ∧ TsX [cb] wr (.slice ac C.length mc) C ∧ Hid (isCat C = true)) (fun i _ => l.length - (intOf i).toNat)
  case atStart => exact ⟨0, [], none, 0, by omega, by omega, rfl, hE0, hB0, ⟨cb + 1, [], by simp, Sl.nil _ _ _, RIs.nil _ _⟩, by show _ = _; decide +kernel⟩
  case round =>
    clear hB0 hE0
    obtain ⟨k, C, ac, mc, hk, hk20, rfl, hX, hB, hC, hI⟩ := hrel
    have hcl := hB.lt
    have sc := hB.cell 0
    simp only [List.getElem?_cons_zero] at sc
    by_cases hlt : k < l.length
    · have hx : l[k]? = some l[k] := List.getElem?_eq_getElem hlt
      obtain ⟨ob, o, a1, m1, a2, m2, rfl, p0, p1, p2, ⟨oc, q1⟩, ok, q2⟩ := (hL.ext hX).at k _ hx
      have hbt := hb _ (List.mem_of_getElem? hx)
      generalize l[k] = t at *
      clear hx
      have e1 := (Ext.refl [] wr).alloc (.cells #[.string t.n, .slice a1 t.cols.length m1, .slice a2 t.keys.length m2] 28)
      have d0 := new_cells wr [.string t.n, .slice a1 t.cols.length m1, .slice a2 t.keys.length m2] 28 0 _ rfl
      have d1 := new_cells wr [.string t.n, .slice a1 t.cols.length m1, .slice a2 t.keys.length m2] 28 1 _ rfl
      have d2 := new_cells wr [.string t.n, .slice a1 t.cols.length m1, .slice a2 t.keys.length m2] 28 2 _ rfl
      have sc1 := cells_ext e1 sc
      have la := fun U (x : Ext [] wr U) => large_any U t a1 m1 a2 m2 oc (q1.ext x (by simp))
      have hC4 := cat_len hI.out
      have ad := fun U (x : Ext [] wr U) => Add_any [cb] U (one_lt (Nat.lt_of_lt_of_le hcl x.size)) (.slice ac C.length mc) C t a1 m1 a2 m2 oc ok (hC.ts.ext x) (q1.ext x (by simp)) (q2.ext x (by simp)) (cat_ok hI.out) hbt.1 hbt.2 (hG.ext (hX.trans x)) (by unfold maxLen; omega)
      by_cases h20 : k = 20
      · subst h20
        go_wp2_with (fail)
        go_ret
        exact ⟨rfl, hX.trans e1⟩
      · have q20 : ((k : Int) == 20) = false := by simp; omega
        cases hla : largeB t
        · rw [hla] at la
          clear hla
          rcases add_cases (t := t) hI.out with ⟨ae, ai, an, a4, aL⟩ | ⟨ae, am, aL⟩ | ⟨ae, ae5, aL⟩
          · rw [ae, aL] at ad
            have hN := cat_append hI.out ai an a4
            obtain ⟨de, dL⟩ := drop_last hN an
            have fl := fnd_last an
            have hLl : (C ++ [t]).length = C.length + 1 := by simp
            generalize C ++ [t] = L at *
            have dr := fun U v (h : Ts U v L) (g : Glob U) => Drop_any [] U (by simp) v L t.n h (cat_ok hN) g (by unfold maxLen; omega)
            rw [de, dL] at dr
            have fd := fun U v (h : Ts U v L) => Find_any U v L t.n h (by unfold maxLen; omega)
            rw [fl, show fnd0 L.length C.length = (C.length : Int) by unfold fnd0; rw [if_pos (by omega)], show decide (C.length < L.length) = true by simp; omega] at fd
            have sm := fun U v v' (h : Ts U v C) (h' : Ts U v' C) => Same_any U v v' C C h h' (by unfold maxLen; omega) (by unfold maxLen; omega) (cat_ok hI.out) (cat_ok hI.out)
            rw [decide_eq_true rfl] at sm
            have ck := fun U v (h : Ts U v L) (g : Glob U) => Check_any U v L h g (cat_ok hN)
            rw [hN] at ck
            simp only [if_true] at ck
            have hNN := Lib.hid hN
            have q1 : ((C.length : Int) != (L.length : Int) - 1) = false := by simp; omega
            have q2 : L.length ≤ 5 := by omega
            have q3 : 1 ≤ L.length := by omega
            have HLl := Lib.hid hLl
            clear hN ae ai an aL de dL fl hLl
            go_upto_region 9 with (go_at_call 10; (with_reducible refine (la _ e1).mono ?_); rintro e u1 ⟨rfl, x1⟩; have f0 := cells_ext x1 d0; have f1 := cells_ext x1 d1; have f2 := cells_ext x1 d2; have sc2 := cells_ext x1 sc1)
            go_wp2_with (first
              | (go_at_call 12; (with_reducible refine (ad _ (e1.trans x1)).mono ?_); rintro e u2 ⟨⟨v2, rfl, hT⟩, x2⟩; obtain ⟨a4, m4, rfl⟩ := hT.ts.shape; have e2 := (Ext.refl [] u2).alloc (.cells #[.slice a4 L.length m4] 24); have Y2 := ((e1.trans x1).trans x2).trans e2; have g0 := cells_ext e2 (cells_ext x2 f0); have gc := cells_ext e2 (cells_ext x2 sc2); have gn := new_cells u2 [.slice a4 L.length m4] 24 0 _ rfl; have hT2 := hT.keep e2)
              | (go_at_call 13; (with_reducible refine (dr _ _ hT2.ts (hG.ext (hX.trans Y2))).mono ?_); rintro e u3 ⟨⟨v3, rfl, hT3⟩, x3⟩; obtain ⟨a5, m5, rfl⟩ := hT3.ts.shape; have e3 := (Ext.refl [] u3).alloc (.cells #[.slice a5 C.length m5] 24); have Y3 := (Y2.trans x3).trans e3; have k0 := cells_ext e3 (cells_ext x3 g0); have kc := cells_ext e3 (cells_ext x3 gc); have kn := cells_ext e3 (cells_ext x3 gn); have kb := new_cells u3 [.slice a5 C.length m5] 24 0 _ rfl; have hT4 := hT3.ts.ext e3)
              | (go_at_call 22; (with_reducible refine (fd _ _ (hT2.ts.ext (x3.trans e3))).mono ?_); rintro e u4 ⟨rfl, x4⟩; have lc := cells_ext x4 kc; have ln := cells_ext x4 kn; have lb := cells_ext x4 kb)
              | (go_at_call 21; (with_reducible refine (sm _ _ _ (hT4.ext x4) (hC.ts.ext (Y3.trans x4))).mono ?_); rintro e u5 ⟨rfl, x5⟩; have mc' := cells_ext x5 lc; have mn := cells_ext x5 ln)
              | (go_at_call 20; (with_reducible refine (ck _ _ (hT2.ts.ext (((x3.trans e3).trans x4).trans x5)) (hG.ext (hX.trans ((Y3.trans x4).trans x5)))).mono ?_); rintro e u6 ⟨rfl, x6⟩; have nc := cells_ext x6 mc'; have nn := cells_ext x6 mn; have Y6 := ((Y3.trans x4).trans x5).trans x6; have hB6 := hB.ext Y6 (by simp); have hz := hB6.frozen 0))
            exact ⟨⟨k + 1, L, a4, m4, by omega, by omega, by go_num, (hX.trans Y6).setCell (p := ⟨cb, 0, none⟩) (.inr hcb) _, hB6.set 0 _, (hT2.keep ((((x3.trans e3).trans x4).trans x5).trans x6)).ext ((Ext.refl [cb] u6).setCell (p := ⟨cb, 0, none⟩) (.inl (by simp)) _), hNN⟩, by simp [intOf]; omega⟩
          · rw [ae, aL] at ad
            obtain ⟨de, dl, dn, df⟩ := drop_there hI.out am
            have dr := fun U v (h : Ts U v C) (g : Glob U) => Drop_any [] U (by simp) v C t.n h (cat_ok hI.out) g (by unfold maxLen; omega)
            rw [de] at dr
            have hdl := dropL_len (l := C) (name := t.n)
            have f2' := fun U v (h : Ts U v (dropL C t.n)) => Find_any U v (dropL C t.n) t.n h (by unfold maxLen; omega)
            rw [decide_eq_false dn] at f2'
            have f1' := fun U v (h : Ts U v C) => Find_any U v C t.n h (by unfold maxLen; omega)
            rw [decide_eq_true df, show fnd0 C.length (fnd (C.map Tab.n) t.n) = (fnd (C.map Tab.n) t.n : Int) by unfold fnd0; rw [if_pos df]] at f1'
            generalize fnd (C.map Tab.n) t.n = K at *
            generalize dropL C t.n = D at *
            generalize fnd0 D.length (fnd (D.map Tab.n) t.n) = K2 at *
            have q1 : decide ((C.length : Int) ≤ (K : Int)) = false := by simp; omega
            have q2 : ((D.length : Int) != (C.length : Int) - 1) = false := by simp; omega
            have q3 : 1 ≤ C.length := by omega
            have q4 : C.length ≤ 4 := hC4
            have q1' : decide (C.length ≤ K) = false := by simp; omega
            have HDF := Lib.hid df
            clear ae am aL de dl dn df hdl
            go_upto_region 9 with (go_at_call 10; (with_reducible refine (la _ e1).mono ?_); rintro e u1 ⟨rfl, x1⟩; have f0 := cells_ext x1 d0; have f1 := cells_ext x1 d1; have f2 := cells_ext x1 d2; have sc2 := cells_ext x1 sc1)
            go_wp2_with (first
              | (go_at_call 12; (with_reducible refine (ad _ (e1.trans x1)).mono ?_); rintro e u2 ⟨⟨v2, rfl, hT⟩, x2⟩; obtain ⟨a4, m4, rfl⟩ := hT.ts.shape; have e2 := (Ext.refl [] u2).alloc (.cells #[.slice a4 0 m4] 24); have Y2 := ((e1.trans x1).trans x2).trans e2; have g0 := cells_ext e2 (cells_ext x2 f0); have gc := cells_ext e2 (cells_ext x2 sc2))
              | (go_at_call 22; (with_reducible refine (f1' _ _ (hC.ts.ext Y2)).mono ?_); rintro e u3 ⟨rfl, x3⟩; have k0 := cells_ext x3 g0; have kc := cells_ext x3 gc)
              | (go_at_call 13; (with_reducible refine (dr _ _ (hC.ts.ext (Y2.trans x3)) (hG.ext (hX.trans (Y2.trans x3)))).mono ?_); rintro e u4 ⟨⟨v4, rfl, hT4⟩, x4⟩; obtain ⟨a5, m5, rfl⟩ := hT4.ts.shape; have e3 := (Ext.refl [] u4).alloc (.cells #[.slice a5 D.length m5] 24); have l0 := cells_ext e3 (cells_ext x4 k0); have lc := cells_ext e3 (cells_ext x4 kc); have lb := new_cells u4 [.slice a5 D.length m5] 24 0 _ rfl)
              | (go_at_call 22; (with_reducible refine (f2' _ _ (hT4.ts.ext e3)).mono ?_); rintro e u5 ⟨rfl, x5⟩; have mc' := cells_ext x5 lc; have mb := cells_ext x5 lb; have Y5 := (((Y2.trans x3).trans x4).trans e3).trans x5))
            exact ⟨⟨k + 1, C, ac, mc, by omega, by omega, by go_num, hX.trans Y5, hB.ext Y5 (by simp), hC.keep Y5, hI⟩, by simp [intOf]; omega⟩
          · rw [aL] at ad
            generalize addE C t = E at *
            have q1 : (E != 0) = true := by simpa using ae
            have q2 : (E == 5) = false := by simpa using ae5
            clear ae ae5 aL
            go_wp2_with (first
              | (go_at_call 10; (with_reducible refine (la _ e1).mono ?_); rintro e u1 ⟨rfl, x1⟩; have f0 := cells_ext x1 d0; have f1 := cells_ext x1 d1; have f2 := cells_ext x1 d2; have sc2 := cells_ext x1 sc1)
              | (go_at_call 12; (with_reducible refine (ad _ (e1.trans x1)).mono ?_); rintro e u2 ⟨⟨v2, rfl, hT⟩, x2⟩; obtain ⟨a4, m4, rfl⟩ := hT.ts.shape; have e2 := (Ext.refl [] u2).alloc (.cells #[.slice a4 0 m4] 24); have Y2 := ((e1.trans x1).trans x2).trans e2))
            exact ⟨⟨k + 1, C, ac, mc, by omega, by omega, by go_num, hX.trans Y2, hB.ext Y2 (by simp), hC.keep Y2, hI⟩, by simp [intOf]; omega⟩
        · rw [hla] at la
          go_wp2_with (go_at_call 10; (with_reducible refine (la _ e1).mono ?_); rintro e u1 ⟨rfl, x1⟩)
          go_roundw
          case rel => exact ⟨k + 1, C, ac, mc, by omega, by omega, by go_num, (hX.trans e1).trans x1, (hB.ext e1 (by simp)).ext x1 (by simp), (hC.keep e1).keep x1, hI⟩
          case measure => simp [intOf]; omega
    · go_wp2_with (fail)
      go_ret
      exact ⟨rfl, hX⟩
set_option maxRecDepth 100000 in
theorem walk_CatalogStays {H : Type} {enc : TypeId × Value → H} (W : World) (hG : Glob W) (v0 : Value) (d0 : DataW H) (p0 : List MemPlace) (base0 : Nat) (h0 : DataW.Trod enc Tryd.prog W 0 (fun _ => true) true 22 v0 d0 p0) (k0 : Value.okWide Tryd.prog W .any base0 22 v0) :
    Calls Tryd.prog 7 #[v0] W fun e w' => e = .returned (.bool true) ∧ Below W.heap.size W w' := by
  obtain ⟨l, hT, hl, hf⟩ := read_tabs h0 k0
  exact (stays_in W v0 l hT hG hl (fun t ht => ⟨(hf t ht).2.1, (hf t ht).2.2.1⟩)).mono fun e w' r => ⟨r.1, r.2.below⟩
namespace catalogStays
open Go.ChangeShapes Go.WideShapes Go.ChangeAt Go.RowKit
set_option maxRecDepth 100000 in
theorem lifted (os : Os) (started : os.Started) (H : Type) (enc : TypeId × Value → H) :
    ReturnsInHanded {} Tryd.checked os 7 .any (fun w args => (Rows.catalogStaysSpec.pre enc Tryd.prog Tryd.f7 Rows.catalogStaysRow.domain false w args ∧ laidMetH Tryd.prog laidL w) ∧ sizedMet enc Tryd.prog Tryd.f7 (OpenSpec.ofChange Rows.catalogStaysSpec) false w args) (Rows.catalogStaysSpec.post enc Tryd.prog Tryd.f7 false true false false) := by
  refine returns_of_both (C := Tryd.checked) (X := fun w _ => laidMetH Tryd.prog laidL w) (fun _ _ _ hh h => h.of_heap hh) ownK started (by kernel_rfl) Tryd.func7
    (ChangeSpec.witness_shaped (enc := enc) (C := Tryd.checked) (os := os) (X := fun w _ => laidMetH Tryd.prog laidL w) false (World.laidAll Tryd.prog os laidL) #[.slice none 0 0] 8 (World.laidAll_os _ _ _)
      (World.shaped_of_ZipB (by kernel_rfl) (by kernel_rfl)) (by kernel_rfl) (by kernel_rfl) (by kernel_rfl)
      (by rw [MakeChecks.laidMetH_plain _ _ _ (by kernel_rfl)]; exact laidMet_laidAll _ (by kernel_rfl) (by kernel_rfl))) ?_
  intro W base args ds gs before hval0 hW hL hS
  have hG := glob_of hL hS
  have hval : ∀ (j : Nat) t v, Tryd.f7.params[j]? = some t → args[j]? = some v → Value.okWide Tryd.prog W .any base t v := hval0
  have hW' := hW
  obtain ⟨p, q, hA0, hV, rfl, hfz, hnd⟩ := hW
  have hA : DataW.TrodAll enc Tryd.prog W 0 (fun _ => true) true Tryd.f7.params.toList args.toList ds p := hA0
  rw [Tryd.params7] at hA hval
  obtain ⟨v0, vs0, d0, ds0, p0, q0, hargs, rfl, rfl, h0, r0⟩ := trodAll_cons hA
  obtain ⟨rfl, rfl, rfl⟩ := trodAll_nil r0
  obtain rfl : args = #[v0] := by cases args; simp_all
  obtain ⟨rfl, rfl⟩ := trodVars_none hV
  have lt0 : ∀ x ∈ p0, x.block < W.heap.size := by obtain ⟨m, hm⟩ := h0; exact DataW.trod_lt m _ _ _ hm
  have k0 := hval 0 22 v0 rfl rfl
  clear hA0 hval0
  refine (walk_CatalogStays W hG v0 d0 p0 base h0 k0).mono fun e W' ⟨he, bel⟩ => ?_
  subst he
  exact ⟨_, rfl, _, _, _, [], _, [], hW', trodAll_mk1 (shut_bool Tryd.underlying4 _), (trodAll_cons_mk (Below.trod laidOut (by kernel_rfl) (of_decide_eq_true (by kernel_rfl)) h0 bel lt0) trodAll_mk0), rfl, bel.frame _, fun h => by cases h⟩
theorem over : Rows.catalogStaysRow.holds Tryd.pinned (OpenSpec.ofChange Rows.catalogStaysSpec) :=
  OpenClaim.holds_of_wide 7 Tryd.f7 rfl rfl rfl rfl rfl rfl rfl ⟨rfl, rfl, rfl, rfl, rfl⟩ rfl rfl rfl rfl rfl (by kernel_rfl) Tryd.func7 (by kernel_rfl)
    (of_decide_eq_true (by kernel_rfl)) (by unfold Func.isWrapper; first | (rw [if_pos (by decide +kernel)]; kernel_rfl) | (rw [if_neg (by decide +kernel)]; exact ⟨rfl, rfl⟩))
    (fun os started H enc _ => lifted os started H enc)
theorem proved : Rows.CatalogStaysCardSaid :=
  Claim7.holds_tied_plain_at .later [] [.data, .data, .data, .pinned, .pinned] true (true, "b4d9493f0f3dd77108f5edc3bac0ae7946f66dba4f9b6540b8985659c9f4e89a") false over (fun _ h => by cases h) (by kernel_rfl) (fun _ h => by cases h) catalogStays_row_tie rfl ⟨rfl, rfl⟩ (by kernel_rfl) rfl
    (fun f fn hf hfn => by
      obtain rfl : f = 7 := Option.some.inj ((show Tryd.prog.funcNamed "bowsprit/bowspritlaw11.CatalogStays" = some 7 by kernel_rfl).symm.trans hf) |>.symm
      obtain rfl : fn = Tryd.f7 := (Option.some.inj (Tryd.func7.symm.trans hfn)).symm
      exact ⟨by kernel_rfl, fun j t ht => by
        rw [Tryd.params7] at ht
        have hm : t ∈ [22] := by simpa using Array.mem_of_getElem? ht
        have hall : ([22].all fun u => !Tryd.prog.wantsStandIn u) = true := by kernel_rfl
        exact (show Tryd.prog.wantsStandIn t = false by simpa using List.all_eq_true.1 hall t hm)⟩)
    (by kernel_rfl)
#print axioms proved
end catalogStays
end Go.Proofs.YtibmjfihfljiiaaDoor
