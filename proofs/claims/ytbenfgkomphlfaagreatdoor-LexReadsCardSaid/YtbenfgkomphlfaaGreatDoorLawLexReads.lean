/-
  bowspritlaw07.LexReads.
-/
import Derived.Test.YtbenfgkomphlfaaGreatDoorLexT
import Derived.Test.YtbenfgkomphlfaaGreatDoorCards
import Derived.Test.YtbenfgkomphlfaaGreatDoorTie
import Derived.Test.YtbenfgkomphlfaaGreatDoorLexS
import Derived.Test.YtbenfgkomphlfaaGreatDoorLexRL
import Derived.SevenTiedAt
import Derived.ChangeOld
namespace Go.Proofs.YtbenfgkomphlfaaGreatDoor
open Go.RowKit
open Go.Lib hiding intOf
set_option linter.unusedVariables false

set_option maxRecDepth 100000 in
set_option maxHeartbeats 4000000 in
theorem walkReads_in (w : World) (s : ByteArray) (hG : Glob w) (hs : s.size ≤ 5000) :
    Calls Tryz.prog 3 #[.string s] w fun e w' => e = .returned (.bool true) ∧ Ext [] w w' := by
  have tk := fun W (g : Glob W) => Tokens_any W s g
  have rt := fun W => rTokens_any W s
  unfold TokEnd at tk
  unfold RTokEnd at rt
  have hlen : (tokensL (L s)).length ≤ 600 := by
    unfold tokensL
    split
    · simp
    · rename_i h6
      split
      · simp
      · have := es_length (L s) 0 0
        unfold es at this
        simp at this
        omega
  generalize tokensL (L s) = l at *
  generalize tokensP (L s) = p at *
  generalize tokensE (L s) = q at *
  go_enter Tryz.func3, Tryz.ntmps3
  go_wp2_with (first
    | (go_at_call 5; refine (wakes_any _ hG).mono ?_; rintro e w0 ⟨rfl, h0⟩)
    | (go_at_call 6; (with_reducible refine (tk _ (hG.ext h0)).mono ?_); rintro e w1 ⟨v1, o1, rfl, T1, -, x1⟩; obtain ⟨a1, c1, rfl⟩ := T1.shape)
    | (go_at_call 7; (with_reducible refine (rt _).mono ?_); rintro e w2 ⟨v2, o2, rfl, T2, x2⟩; obtain ⟨a2, c2, rfl⟩ := T2.shape))
  have hY := (h0.trans x1).trans x2
  have T1 := T1.ext x2 (by simp)
  clear tk rt x1 x2 h0
  go_loopw [44] (fun i wr => ∃ k : Nat, k ≤ l.length ∧ i = .int .i64 k ∧ Ext [] w2 wr) (fun i _ => l.length - (intOf i).toNat)
  case atStart => exact ⟨0, by omega, rfl, Ext.refl _ _⟩
  case round =>
    obtain ⟨k, hk, rfl, hX⟩ := hrel
    by_cases hlt : k < l.length
    · obtain ⟨o, K, P, S, U, rfl, hx, c0, c1, c2, c3⟩ := (T1.ext hX (by simp)).at k hlt
      obtain ⟨o', K', P', S', U', rfl, hx', d0, d1, d2, d3⟩ := (T2.ext hX (by simp)).at k hlt
      rw [hx] at hx'
      obtain ⟨rfl, rfl, rfl, rfl⟩ : K = K' ∧ P = P' ∧ S = S' ∧ U = U' := by simpa using hx'
      clear hx hx'
      go_wp2
      go_region
      all_goals
        go_wp2
        go_roundw
        case rel => exact ⟨k + 1, by omega, by go_num, hX.drew⟩
        case measure => simp [intOf]; omega
    · obtain rfl : k = l.length := by omega
      go_wp2
      go_ret
      exact ⟨rfl, hY.trans hX⟩
theorem walkReads_out (w : World) (s : ByteArray) (hG : Glob w) (hs : 5000 < (s.size : Int)) :
    Calls Tryz.prog 3 #[.string s] w fun e w' => e = .returned (.bool true) ∧ Ext [] w w' := by
  go_enter Tryz.func3, Tryz.ntmps3
  go_wp2_with (go_at_call 5; refine (wakes_any _ hG).mono ?_; rintro e w0 ⟨rfl, h0⟩)
  go_ret
  exact ⟨rfl, h0⟩
set_option maxRecDepth 100000 in
theorem walk_LexReads {H : Type} {enc : TypeId × Value → H} (W : World) (hG : Glob W) (v0 : Value) (d0 : DataW H) (p0 : List MemPlace) (base0 : Nat) (h0 : DataW.Trod enc Tryz.prog W 0 (fun _ => true) true 9 v0 d0 p0) (k0 : Value.okWide Tryz.prog W .any base0 9 v0) :
    Calls Tryz.prog 3 #[v0] W fun e w' => e = .returned (.bool true) ∧ Below W.heap.size W w' := by
  obtain ⟨s, rfl⟩ := WideShapes.okWide_string Tryz.underlying9 k0
  by_cases h : s.size ≤ 5000
  · exact (walkReads_in W s hG h).mono fun e w' r => ⟨r.1, r.2.below⟩
  · exact (walkReads_out W s hG (by omega)).mono fun e w' r => ⟨r.1, r.2.below⟩
namespace lexReads
open Go.ChangeShapes Go.WideShapes Go.ChangeAt Go.RowKit
set_option maxRecDepth 100000 in
theorem lifted (os : Os) (started : os.Started) (H : Type) (enc : TypeId × Value → H) :
    ReturnsInHanded {} Tryz.checked os 3 .any (fun w args => (Rows.lexReadsSpec.pre enc Tryz.prog Tryz.f3 Rows.lexReadsRow.domain false w args ∧ laidMetH Tryz.prog laidL w) ∧ sizedMet enc Tryz.prog Tryz.f3 (OpenSpec.ofChange Rows.lexReadsSpec) false w args) (Rows.lexReadsSpec.post enc Tryz.prog Tryz.f3 false true false false) := by
  refine returns_of_both (C := Tryz.checked) (X := fun w _ => laidMetH Tryz.prog laidL w) (fun _ _ _ hh h => h.of_heap hh) ownK started (by kernel_rfl) Tryz.func3
    (ChangeSpec.witness_shaped (enc := enc) (C := Tryz.checked) (os := os) (X := fun w _ => laidMetH Tryz.prog laidL w) false (World.laidAll Tryz.prog os laidL) #[.string (ByteArray.mk #[])] 8 (World.laidAll_os _ _ _)
      (World.shaped_of_ZipB (by kernel_rfl) (by kernel_rfl)) (by kernel_rfl) (by kernel_rfl) (by kernel_rfl)
      (by rw [MakeChecks.laidMetH_plain _ _ _ (by kernel_rfl)]; exact laidMet_laidAll _ (by kernel_rfl) (by kernel_rfl))) ?_
  intro W base args ds gs before hval0 hW hL hS
  have hG := glob_of hL hS
  have hval : ∀ (j : Nat) t v, Tryz.f3.params[j]? = some t → args[j]? = some v → Value.okWide Tryz.prog W .any base t v := hval0
  have hW' := hW
  obtain ⟨p, q, hA0, hV, rfl, hfz, hnd⟩ := hW
  have hA : DataW.TrodAll enc Tryz.prog W 0 (fun _ => true) true Tryz.f3.params.toList args.toList ds p := hA0
  rw [Tryz.params3] at hA hval
  obtain ⟨v0, vs0, d0, ds0, p0, q0, hargs, rfl, rfl, h0, r0⟩ := trodAll_cons hA
  obtain ⟨rfl, rfl, rfl⟩ := trodAll_nil r0
  obtain rfl : args = #[v0] := by cases args; simp_all
  obtain ⟨rfl, rfl⟩ := trodVars_none hV
  have lt0 : ∀ x ∈ p0, x.block < W.heap.size := by obtain ⟨m, hm⟩ := h0; exact DataW.trod_lt m _ _ _ hm
  have k0 := hval 0 9 v0 rfl rfl
  clear hA0 hval0
  refine (walk_LexReads W hG v0 d0 p0 base h0 k0).mono fun e W' ⟨he, bel⟩ => ?_
  subst he
  exact ⟨_, rfl, _, _, _, [], _, [], hW', trodAll_mk1 (shut_bool Tryz.underlying4 _), (trodAll_cons_mk (Below.trod laidOut (by kernel_rfl) (of_decide_eq_true (by kernel_rfl)) h0 bel lt0) trodAll_mk0), rfl, bel.frame _, fun h => by cases h⟩
theorem over : Rows.lexReadsRow.holds Tryz.pinned (OpenSpec.ofChange Rows.lexReadsSpec) :=
  OpenClaim.holds_of_wide 3 Tryz.f3 rfl rfl rfl rfl rfl rfl rfl ⟨rfl, rfl, rfl, rfl, rfl⟩ rfl rfl rfl rfl rfl (by kernel_rfl) Tryz.func3 (by kernel_rfl)
    (of_decide_eq_true (by kernel_rfl)) (by unfold Func.isWrapper; first | (rw [if_pos (by decide +kernel)]; kernel_rfl) | (rw [if_neg (by decide +kernel)]; exact ⟨rfl, rfl⟩))
    (fun os started H enc _ => lifted os started H enc)
theorem proved : Rows.LexReadsCardSaid :=
  Claim7.holds_tied_plain_at .later [] [.data, .data, .data, .data, .sentinel, .sentinel, .data, .data, .pinned, .pinned] true (true, "49f3fd71cac0feb1b9ceb013d37ec1011c5f26eca00cfe3142270857caee1731") true over (fun _ h => by cases h) (by kernel_rfl) (fun _ h => by cases h) lexReads_row_tie rfl ⟨rfl, rfl⟩ (by kernel_rfl) rfl
    (fun f fn hf hfn => by
      obtain rfl : f = 3 := Option.some.inj ((show Tryz.prog.funcNamed "bowsprit/bowspritlaw07.LexReads" = some 3 by kernel_rfl).symm.trans hf) |>.symm
      obtain rfl : fn = Tryz.f3 := (Option.some.inj (Tryz.func3.symm.trans hfn)).symm
      exact ⟨by kernel_rfl, fun j t ht => by
        rw [Tryz.params3] at ht
        have hm : t ∈ [9] := by simpa using Array.mem_of_getElem? ht
        have hall : ([9].all fun u => !Tryz.prog.wantsStandIn u) = true := by kernel_rfl
        exact (show Tryz.prog.wantsStandIn t = false by simpa using List.all_eq_true.1 hall t hm)⟩)
    (by kernel_rfl)
#print axioms proved
end lexReads
end Go.Proofs.YtbenfgkomphlfaaGreatDoor
