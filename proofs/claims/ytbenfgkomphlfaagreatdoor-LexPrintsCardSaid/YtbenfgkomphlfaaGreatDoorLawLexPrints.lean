/-
  bowspritlaw07.LexPrints.
-/
import Derived.Test.YtbenfgkomphlfaaGreatDoorLexT
import Derived.Test.YtbenfgkomphlfaaGreatDoorCards
import Derived.Test.YtbenfgkomphlfaaGreatDoorTie
import Derived.Test.YtbenfgkomphlfaaGreatDoorLexR
import Derived.Test.YtbenfgkomphlfaaGreatDoorLexS
import Derived.Test.YtbenfgkomphlfaaGreatDoorLexV
import Derived.Test.YtbenfgkomphlfaaGreatDoorLexRC
import Derived.Test.YtbenfgkomphlfaaGreatDoorLexRD
import Derived.SevenTiedAt
import Derived.ChangeOld
namespace Go.Proofs.YtbenfgkomphlfaaGreatDoor
open Go.RowKit
open Go.Lib hiding intOf
set_option linter.unusedVariables false

theorem sameL_refl : ∀ l : List Tok, sameL l l = true
  | [] => rfl
  | x :: l => by rw [sameL, sameL_refl l]; simp [sameTok]
set_option maxRecDepth 100000 in
set_option maxHeartbeats 4000000 in
theorem walkPrints_in (w : World) (v u : Value) (ob oc : Nat) (l m : List Tok) (hT : Ts w v ob l) (hU : Ts w u oc m) (hG : Glob w) (hl : l.length ≤ 300) (hm : m.length ≤ 300) (hn : ∀ t ∈ l, 0 ≤ t.n) :
    Calls Tryz.prog 4 #[v, u] w fun e w' => e = .returned (.bool true) ∧ Ext [] w w' := by
  obtain ⟨a, cap, rfl⟩ := hT.shape
  obtain ⟨b, cbp, rfl⟩ := hU.shape
  go_enter Tryz.func4, Tryz.ntmps4
  go_wp2_with (go_at_call 5; refine (wakes_any _ hG).mono ?_; rintro e w0 ⟨rfl, h0⟩)
  go_loopw [5, 22] (fun c i wr => ∃ (k : Nat) (r : Bool), k ≤ l.length ∧ c = .bool r ∧ i = .int .i64 k ∧ Ext [] w wr ∧ Hid ((l.take k).all Tok.right = r) ∧ Hid (∀ t ∈ l.take k, t.s.size ≤ 1000)) (fun c i _ => l.length - (intOf i).toNat)
  case atStart => exact ⟨0, true, by omega, rfl, rfl, h0, rfl, by simp [Hid]⟩
  case round =>
    obtain ⟨k, r, hk, rfl, rfl, hX, hR, hS⟩ := hrel
    clear h0
    by_cases hlt : k < l.length
    · obtain ⟨o, K, P, S, U, rfl, hx, c0, c1, c2, c3⟩ := (hT.ext hX (by simp)).at k hlt
      by_cases hz : S.size ≤ 1000
      · have hS2 : Hid (∀ t ∈ l.take (k + 1), t.s.size ≤ 1000) := by
          show ∀ t ∈ _, _
          intro t ht
          rw [List.take_add_one, hx, List.mem_append] at ht
          rcases ht with ht | ht
          · exact hS.out t ht
          · obtain rfl : t = _ := by simpa using ht
            exact hz
        have hR2 : Hid ((l.take (k + 1)).all Tok.right = (r && (Tok.mk K P S U).right)) := by
          show _ = _
          rw [List.take_add_one, hx, List.all_append, hR.out]
          simp
        have rg := fun W => Right_any W K P U S (by omega)
        generalize (Tok.mk K P S U).right = q at *
        clear hn hx hR hS
        cases r
        · go_wp2
          go_roundw
          case rel => exact ⟨k + 1, false, by omega, rfl, by go_num, hX.alloc _, hR2, hS2⟩
          case measure => simp [intOf]; omega
        · rw [Bool.true_and] at hR2
          go_wp2_with (go_at_call 8; refine (rg _).mono ?_; rintro e w1 ⟨rfl, x1⟩)
          go_roundw
          case rel => exact ⟨k + 1, q, by omega, rfl, by go_num, (hX.alloc _).trans x1, hR2, hS2⟩
          case measure => simp [intOf]; omega
      · clear hn hx
        go_wp2
        go_ret
        exact ⟨rfl, hX.alloc _⟩
    · obtain rfl : k = l.length := by omega
      rw [List.take_length] at hR hS
      have hown0 : (wr.alloc (.cells #[] 29)).ownsRow w.heap.size 29 4 (.slice (some ⟨wr.heap.size, 0, none⟩) 0 0) 0 (trows []) := by
        refine ⟨rfl, .inr ⟨wr.heap.size, 0, #[], rfl, hX.size, heap_new _ _, ?_⟩⟩
        simp [trows]
      have hE := hX.alloc (.cells #[] 29)
      have hpr := fun W v' o' (T : Ts W v' o' l) (x : Ext [] w W) => Print_any W v' o' l T (hG.ext x) (by omega) (fun t ht => ⟨by have := hS.out t ht; omega, hn t ht⟩)
      have hs1 := fun W (x : Ext [] w W) => Same_any W _ _ ob oc l m (hT.ext x (by simp)) (hU.ext x (by simp)) (by omega) (by omega)
      have hs2 := fun W (x : Ext [] w W) => rSame_any W _ _ ob oc l m (hT.ext x (by simp)) (hU.ext x (by simp)) (by omega) (by omega)
      have hs3 := fun W (x : Ext [] w W) => Same_any W _ _ ob ob l l (hT.ext x (by simp)) (hT.ext x (by simp)) (by omega) (by omega)
      rw [sameL_refl] at hs3
      have hrp := fun (h : l.all Tok.right = true) W (x : Ext [] w W) => rPrint_any W _ ob l (hT.ext x (by simp)) (by omega) (fun t ht => ⟨hS.out t ht, hn t ht, List.all_eq_true.1 h t ht⟩)
      rw [hR.out] at hpr hrp
      have he := isEmpty_L (B [])
      rw [show (L (B [])).isEmpty = true from rfl] at he
      generalize sameL l m = c at *
      clear hR hS hn
      cases r
      · clear hrp
        cases c
        all_goals
          go_wp2_with (first
            | (at_builtin; refine wpList_append_sl TT rfl (.tmp 37) (.tmp 38) rfl rfl hown0 rfl (hT.ext hE (by simp)) (trows_one l) (by unfold maxLen; omega) (by omega) (by have := hE.size; omega) ?_; intro v' w3 hO' h3; have hX3 := hE.trans' h3 (fun i hi => .inr (own_ge hown0 i hi)); rw [Nat.zero_add] at hO'; obtain ⟨oc3, hT3, -⟩ := Sl.of_own hO'; have hT4 : Ts w3 v' oc3 l := hT3)
            | (go_at_call 9; refine (hpr _ _ _ hT4 hX3).mono ?_; rintro e w4 ⟨rfl, x4⟩; have hX4 := hX3.trans x4)
            | (go_at_call 10; (with_reducible refine (hs1 _ hX4).mono ?_); rintro e w5 ⟨rfl, x5⟩; have hX5 := hX4.trans x5)
            | (go_at_call 11; (with_reducible refine (hs2 _ hX5).mono ?_); rintro e w6 ⟨rfl, x6⟩; have hX6 := hX5.trans x6)
            | (go_at_call 10; (with_reducible refine (hs3 _ hX6).mono ?_); rintro e w7 ⟨rfl, x7⟩; have hX7 := hX6.trans x7))
          go_ret
          exact ⟨rfl, hX7⟩
      · have hrp' := hrp rfl
        have hq := toList_eq (B (printL l)) (B (printL l))
        rw [decide_eq_true rfl] at hq
        clear hrp
        generalize printL l = y at *
        cases c
        all_goals
          go_wp2_with (first
            | (at_builtin; refine wpList_append_sl TT rfl (.tmp 37) (.tmp 38) rfl rfl hown0 rfl (hT.ext hE (by simp)) (trows_one l) (by unfold maxLen; omega) (by omega) (by have := hE.size; omega) ?_; intro v' w3 hO' h3; have hX3 := hE.trans' h3 (fun i hi => .inr (own_ge hown0 i hi)); rw [Nat.zero_add] at hO'; obtain ⟨oc3, hT3, -⟩ := Sl.of_own hO'; have hT4 : Ts w3 v' oc3 l := hT3)
            | (go_at_call 9; refine (hpr _ _ _ hT4 hX3).mono ?_; rintro e w4 ⟨rfl, x4⟩; have hX4 := hX3.trans x4)
            | (go_at_call 10; (with_reducible refine (hs1 _ hX4).mono ?_); rintro e w5 ⟨rfl, x5⟩; have hX5 := hX4.trans x5)
            | (go_at_call 11; (with_reducible refine (hs2 _ hX5).mono ?_); rintro e w6 ⟨rfl, x6⟩; have hX6 := hX5.trans x6)
            | (go_at_call 10; (with_reducible refine (hs3 _ hX6).mono ?_); rintro e w7 ⟨rfl, x7⟩; have hX7 := hX6.trans x7)
            | (go_at_call 12; (with_reducible refine (hrp' _ hX7).mono ?_); rintro e w8 ⟨rfl, x8⟩; have hX8 := hX7.trans x8))
          go_ret
          exact ⟨rfl, hX8⟩
theorem walkPrints_out (w : World) (v u : Value) (ob oc : Nat) (l m : List Tok) (hT : Ts w v ob l) (hU : Ts w u oc m) (hG : Glob w) (h : 300 < (l.length : Int) ∨ 300 < (m.length : Int)) :
    Calls Tryz.prog 4 #[v, u] w fun e w' => e = .returned (.bool true) ∧ Ext [] w w' := by
  obtain ⟨a, cap, rfl⟩ := hT.shape
  obtain ⟨b, cbp, rfl⟩ := hU.shape
  by_cases h1 : 300 < (l.length : Int)
  · clear h
    go_enter Tryz.func4, Tryz.ntmps4
    go_wp2_with (go_at_call 5; refine (wakes_any _ hG).mono ?_; rintro e w0 ⟨rfl, h0⟩)
    go_ret
    exact ⟨rfl, h0⟩
  · have h2 : 300 < (m.length : Int) := by omega
    clear h
    go_enter Tryz.func4, Tryz.ntmps4
    go_wp2_with (go_at_call 5; refine (wakes_any _ hG).mono ?_; rintro e w0 ⟨rfl, h0⟩)
    go_ret
    exact ⟨rfl, h0⟩
set_option maxRecDepth 100000 in
theorem walk_LexPrints {H : Type} {enc : TypeId × Value → H} (W : World) (hG : Glob W) (v0 : Value) (d0 : DataW H) (p0 : List MemPlace) (base0 : Nat) (h0 : DataW.Trod enc Tryz.prog W 0 (fun _ => true) true 23 v0 d0 p0) (k0 : Value.okWide Tryz.prog W .any base0 23 v0) (v1 : Value) (d1 : DataW H) (p1 : List MemPlace) (base1 : Nat) (h1 : DataW.Trod enc Tryz.prog W 0 (fun _ => true) true 23 v1 d1 p1) (k1 : Value.okWide Tryz.prog W .any base1 23 v1) :
    Calls Tryz.prog 4 #[v0, v1] W fun e w' => e = .returned (.bool true) ∧ Below W.heap.size W w' := by
  obtain ⟨ob, l, hT, hn⟩ := read_toks h0 k0
  obtain ⟨oc, m, hU, _⟩ := read_toks h1 k1
  by_cases h : l.length ≤ 300 ∧ m.length ≤ 300
  · exact (walkPrints_in W v0 v1 ob oc l m hT hU hG h.1 h.2 (fun t ht => (hn t ht).1)).mono fun e w' r => ⟨r.1, r.2.below⟩
  · exact (walkPrints_out W v0 v1 ob oc l m hT hU hG (by omega)).mono fun e w' r => ⟨r.1, r.2.below⟩
namespace lexPrints
open Go.ChangeShapes Go.WideShapes Go.ChangeAt Go.RowKit
set_option maxRecDepth 100000 in
theorem lifted (os : Os) (started : os.Started) (H : Type) (enc : TypeId × Value → H) :
    ReturnsInHanded {} Tryz.checked os 4 .any (fun w args => (Rows.lexPrintsSpec.pre enc Tryz.prog Tryz.f4 Rows.lexPrintsRow.domain false w args ∧ laidMetH Tryz.prog laidL w) ∧ sizedMet enc Tryz.prog Tryz.f4 (OpenSpec.ofChange Rows.lexPrintsSpec) false w args) (Rows.lexPrintsSpec.post enc Tryz.prog Tryz.f4 false true false false) := by
  refine returns_of_both (C := Tryz.checked) (X := fun w _ => laidMetH Tryz.prog laidL w) (fun _ _ _ hh h => h.of_heap hh) ownK started (by kernel_rfl) Tryz.func4
    (ChangeSpec.witness_shaped (enc := enc) (C := Tryz.checked) (os := os) (X := fun w _ => laidMetH Tryz.prog laidL w) false (World.laidAll Tryz.prog os laidL) #[.slice none 0 0, .slice none 0 0] 8 (World.laidAll_os _ _ _)
      (World.shaped_of_ZipB (by kernel_rfl) (by kernel_rfl)) (by kernel_rfl) (by kernel_rfl) (by kernel_rfl)
      (by rw [MakeChecks.laidMetH_plain _ _ _ (by kernel_rfl)]; exact laidMet_laidAll _ (by kernel_rfl) (by kernel_rfl))) ?_
  intro W base args ds gs before hval0 hW hL hS
  have hG := glob_of hL hS
  have hval : ∀ (j : Nat) t v, Tryz.f4.params[j]? = some t → args[j]? = some v → Value.okWide Tryz.prog W .any base t v := hval0
  have hW' := hW
  obtain ⟨p, q, hA0, hV, rfl, hfz, hnd⟩ := hW
  have hA : DataW.TrodAll enc Tryz.prog W 0 (fun _ => true) true Tryz.f4.params.toList args.toList ds p := hA0
  rw [Tryz.params4] at hA hval
  obtain ⟨v0, vs0, d0, ds0, p0, q0, hargs, rfl, rfl, h0, r0⟩ := trodAll_cons hA
  obtain ⟨v1, vs1, d1, ds1, p1, q1, rfl, rfl, rfl, h1, r1⟩ := trodAll_cons r0
  obtain ⟨rfl, rfl, rfl⟩ := trodAll_nil r1
  obtain rfl : args = #[v0, v1] := by cases args; simp_all
  obtain ⟨rfl, rfl⟩ := trodVars_none hV
  have lt0 : ∀ x ∈ p0, x.block < W.heap.size := by obtain ⟨m, hm⟩ := h0; exact DataW.trod_lt m _ _ _ hm
  have lt1 : ∀ x ∈ p1, x.block < W.heap.size := by obtain ⟨m, hm⟩ := h1; exact DataW.trod_lt m _ _ _ hm
  have k0 := hval 0 23 v0 rfl rfl
  have k1 := hval 1 23 v1 rfl rfl
  clear hA0 hval0
  refine (walk_LexPrints W hG v0 d0 p0 base h0 k0 v1 d1 p1 base h1 k1).mono fun e W' ⟨he, bel⟩ => ?_
  subst he
  exact ⟨_, rfl, _, _, _, [], _, [], hW', trodAll_mk1 (shut_bool Tryz.underlying4 _), (trodAll_cons_mk (Below.trod laidOut (by kernel_rfl) (of_decide_eq_true (by kernel_rfl)) h0 bel lt0) (trodAll_cons_mk (Below.trod laidOut (by kernel_rfl) (of_decide_eq_true (by kernel_rfl)) h1 bel lt1) trodAll_mk0)), rfl, bel.frame _, fun h => by cases h⟩
theorem over : Rows.lexPrintsRow.holds Tryz.pinned (OpenSpec.ofChange Rows.lexPrintsSpec) :=
  OpenClaim.holds_of_wide 4 Tryz.f4 rfl rfl rfl rfl rfl rfl rfl ⟨rfl, rfl, rfl, rfl, rfl⟩ rfl rfl rfl rfl rfl (by kernel_rfl) Tryz.func4 (by kernel_rfl)
    (of_decide_eq_true (by kernel_rfl)) (by unfold Func.isWrapper; first | (rw [if_pos (by decide +kernel)]; kernel_rfl) | (rw [if_neg (by decide +kernel)]; exact ⟨rfl, rfl⟩))
    (fun os started H enc _ => lifted os started H enc)
theorem proved : Rows.LexPrintsCardSaid :=
  Claim7.holds_tied_plain_at .later [] [.data, .data, .data, .data, .sentinel, .sentinel, .data, .data, .pinned, .pinned] true (true, "49f3fd71cac0feb1b9ceb013d37ec1011c5f26eca00cfe3142270857caee1731") true over (fun _ h => by cases h) (by kernel_rfl) (fun _ h => by cases h) lexPrints_row_tie rfl ⟨rfl, rfl⟩ (by kernel_rfl) rfl
    (fun f fn hf hfn => by
      obtain rfl : f = 4 := Option.some.inj ((show Tryz.prog.funcNamed "bowsprit/bowspritlaw07.LexPrints" = some 4 by kernel_rfl).symm.trans hf) |>.symm
      obtain rfl : fn = Tryz.f4 := (Option.some.inj (Tryz.func4.symm.trans hfn)).symm
      exact ⟨by kernel_rfl, fun j t ht => by
        rw [Tryz.params4] at ht
        have hm : t ∈ [23, 23] := by simpa using Array.mem_of_getElem? ht
        have hall : ([23, 23].all fun u => !Tryz.prog.wantsStandIn u) = true := by kernel_rfl
        exact (show Tryz.prog.wantsStandIn t = false by simpa using List.all_eq_true.1 hall t hm)⟩)
    (by kernel_rfl)
#print axioms proved
end lexPrints
end Go.Proofs.YtbenfgkomphlfaaGreatDoor
