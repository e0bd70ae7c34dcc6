/-
  bowspritlaw07.LexWrong.
-/
import Derived.Test.YtbenfgkomphlfaaDoorLexT
import Derived.Test.YtbenfgkomphlfaaDoorCards
import Derived.Test.YtbenfgkomphlfaaDoorTie
import Derived.Test.YtbenfgkomphlfaaDoorLexR
import Derived.Test.YtbenfgkomphlfaaDoorLexS
import Derived.Test.YtbenfgkomphlfaaDoorLexW
import Derived.Test.YtbenfgkomphlfaaDoorLexX
import Derived.Test.YtbenfgkomphlfaaDoorLexY
import Derived.SevenTiedAt
import Derived.ChangeOld
namespace Go.Proofs.YtbenfgkomphlfaaDoor
open Go.RowKit
open Go.Lib hiding intOf
set_option linter.unusedVariables false

set_option maxRecDepth 100000 in
set_option maxHeartbeats 4000000 in
theorem walkWrong_bad (w : World) (s m : ByteArray) (hG : Glob w) (hs : s.size ≤ 400) (hm : m.size ≤ 100) (hE : tokensE (L s) ≠ 0) :
    Calls Tryd.prog 5 #[.string s, .string m] w fun e w' => e = .returned (.bool true) ∧ Ext [] w w' := by
  obtain ⟨b1, i, b2, b3, b4⟩ := wrong_behind (L s) (L m) hs hm hE
  have tk := fun W (x : Ext [] w W) => Tokens_any W s (hG.ext x)
  have tk2 := fun W (x : Ext [] w W) => Tokens_any W (s ++ ⟨#[32]⟩ ++ m) (hG.ext x)
  unfold TokEnd at tk tk2
  rw [tokens_bad (L s) hE, b1, b2] at tk
  have hc : L (s ++ ⟨#[32]⟩ ++ m) = L s ++ 32 :: L m := by rw [L_append, L_append]; simp [L]
  rw [hc] at tk2
  have hi : i < s.size := b3
  have hx : (L s)[i]? = some (s[i]'hi) := List.getElem?_eq_getElem b3
  have hb := (s[i]'hi).toNat_lt
  have hix : ∀ W, (Instr.index 9 (.string s) (.int .i64 (i : Int))).run Tryd.prog W = .ok (.int .u8 ((s[i]'hi).toNat : Int)) W := by
    intro W
    rw [run_index_string (P := Tryd.prog) (w := W) 9 s .i64 (i : Int) Tryd.underlying9, dif_pos (by omega)]
    rfl
  by_cases h39 : (s[i]'hi).toNat = 39
  · have q1 : (((s[i]'hi).toNat : Int) == 39) = true := by simp; omega
    clear tk2 b4 hx
    go_enter Tryd.func5, Tryd.ntmps5
    go_wp2_with (first
      | (go_at_call 6; refine (wakes_any _ hG).mono ?_; rintro e w0 ⟨rfl, h0⟩)
      | (go_at_call 8; (with_reducible refine (tk _ h0).mono ?_); rintro e w1 ⟨v1, o1, rfl, T1, _, x1⟩; obtain ⟨a1, c1, rfl⟩ := T1.shape))
    go_ret
    exact ⟨rfl, h0.trans x1⟩
  · have hne : (L s)[i]? ≠ some 39 := by
      rw [hx]
      intro e
      have := Option.some.inj e
      exact h39 (by rw [this]; rfl)
    obtain ⟨b5, b6⟩ := b4 hne
    rw [b5, b6] at tk2
    have q1 : (((s[i]'hi).toNat : Int) == 39) = false := by simp; omega
    clear b4 hx hne
    go_enter Tryd.func5, Tryd.ntmps5
    go_wp2_with (first
      | (go_at_call 6; refine (wakes_any _ hG).mono ?_; rintro e w0 ⟨rfl, h0⟩)
      | (go_at_call 8; (with_reducible refine (tk _ h0).mono ?_); rintro e w1 ⟨v1, o1, rfl, T1, _, x1⟩; obtain ⟨a1, c1, rfl⟩ := T1.shape)
      | (go_at_call 8; (with_reducible refine (tk2 _ (h0.trans x1)).mono ?_); rintro e w2 ⟨v2, o2, rfl, T2, _, x2⟩; obtain ⟨a2, c2, rfl⟩ := T2.shape))
    go_ret
    exact ⟨rfl, (h0.trans x1).trans x2⟩
set_option maxRecDepth 100000 in
set_option maxHeartbeats 4000000 in
theorem walkWrong_good (w : World) (s m : ByteArray) (hG : Glob w) (hs : s.size ≤ 400) (hm : m.size ≤ 100) (hE : tokensE (L s) = 0) :
    Calls Tryd.prog 5 #[.string s, .string m] w fun e w' => e = .returned (.bool true) ∧ Ext [] w w' := by
  have hml := tokens_length (L s)
  have hmr := tokens_right (L s)
  have tk := fun W (x : Ext [] w W) => Tokens_any W s (hG.ext x)
  unfold TokEnd at tk
  rw [hE] at tk
  clear hE
  generalize tokensL (L s) = l at *
  generalize tokensP (L s) = tp at *
  go_enter Tryd.func5, Tryd.ntmps5
  go_wp2_with (first
    | (go_at_call 6; refine (wakes_any _ hG).mono ?_; rintro e w0 ⟨rfl, h0⟩)
    | (go_at_call 8; (with_reducible refine (tk _ h0).mono ?_); rintro e w1 ⟨v1, o1, rfl, T1, _, x1⟩; obtain ⟨a1, c1, rfl⟩ := T1.shape))
  have T0 := T1
  have hY := h0.trans x1
  clear T1 tk
  go_loopw [11, 70] (fun x i wr => ∃ (k : Nat) (tx : List UInt8), k ≤ l.length ∧ x = .string (B tx) ∧ i = .int .i64 k ∧ (B tx).size ≤ 200 * k ∧ Ext [] w1 wr ∧ Hid (tx = strewn Tok.low [] (l.take k))) (fun x i _ => l.length - (intOf i).toNat)
  case atStart => exact ⟨0, [], by omega, rfl, rfl, by decide, Ext.refl _ _, by simp [Hid, strewn]⟩
  case round =>
    obtain ⟨k, tx, hk, rfl, rfl, hz, hX, hTx⟩ := hrel
    by_cases hlt : k < l.length
    · obtain ⟨o, K, P, S, U, rfl, hx, c0, c1, c2, c3⟩ := (T0.ext hX (by simp)).at k hlt
      obtain ⟨hr, h0U⟩ := hmr _ (List.mem_of_getElem? hx)
      have hS := right_small _ hr
      dsimp only at h0U hS
      have hT5 := TB.new wr K P S U
      have hE := hX.alloc (.cells #[.int .i64 K, .int .i64 P, .string S, .int .u64 U] 26)
      have p1 := print_one _ K P U S (hG.ext (hY.trans hE)) (by omega) h0U
      rw [show (wr.alloc (.cells #[.int .i64 K, .int .i64 P, .string S, .int .u64 U] 26)).heap.size = wr.heap.size + 1 by simp] at p1
      rw [hr] at p1
      have hw := w_len ⟨K, P, S, U⟩ hr h0U
      have hst := strewn_succ Tok.low [] l k _ hx
      dsimp only at hw
      simp only [if_true] at p1
      by_cases hk1 : K = 1
      · subst hk1
        have hlo : (Tok.mk 1 P S U).low = toLowerA (Tok.mk 1 P S U).w := by unfold Tok.low; rw [if_pos rfl]
        have hwd : (Tok.mk 1 P S U).w = L S := rfl
        have hal : ascii (L (B (Tok.mk 1 P S U).w)) = true := by
          rw [L_B, hwd]
          unfold Tok.right at hr
          rw [Bool.and_eq_true] at hr
          have h1 : isTok 1 (L S) U = true := hr.2
          unfold isTok at h1
          rw [if_neg (by decide)] at h1
          split at h1
          · cases h1
          · rw [if_pos rfl] at h1
            exact alnum_ascii _ (word_fact h1).2.2.1
        have hw2 : (B (Tok.mk 1 P S U).w).size ≤ 122 := by show (Tok.mk 1 P S U).w.length ≤ _; omega
        have lo := fun W => ToLower_any W (B (Tok.mk 1 P S U).w) (by omega) hal
        rw [L_B] at lo
        rw [hlo] at hst
        have hw3 : (B (toLowerA (Tok.mk 1 P S U).w)).size ≤ 122 := by show (toLowerA (Tok.mk 1 P S U).w).length ≤ _; unfold toLowerA; rw [List.length_map]; exact hw2
        generalize toLowerA (Tok.mk 1 P S U).w = y at *
        generalize (Tok.mk 1 P S U).w = x at *
        have hTx2 : Hid (tx ++ (y ++ 32 :: []) = strewn Tok.low [] (l.take (k + 1))) := by show _ = _; rw [hst, hTx.out]
        have ha2 : B tx ++ (B y ++ ⟨#[32]⟩) = B (tx ++ (y ++ 32 :: [])) := L_inj.1 (by simp only [L_append, L_B]; simp [L])
        have hz2 : (B (tx ++ (y ++ 32 :: []))).size ≤ 200 * (k + 1) := by
          have e1 : (B tx).size = tx.length := rfl
          have e2 : (B y).size = y.length := rfl
          show (tx ++ (y ++ 32 :: [])).length ≤ _
          simp only [List.length_append, List.length_cons, List.length_nil]
          omega
        clear hx h0U hw hst hlo hwd hal hr
        go_wp2_with (first
          | (go_at_call 7; (with_reducible refine p1.mono ?_); rintro e w2 ⟨rfl, x2⟩; obtain ⟨d0, d1, d2, d3⟩ := ((hT5.ext ((Ext.refl [] _).alloc _) (by simp)).ext x2 (by simp)).c4)
          | (go_at_call 10; (with_reducible refine (lo _).mono ?_); rintro e w3 ⟨rfl, x3⟩))
        go_roundw
        case rel => exact ⟨k + 1, _, by omega, rfl, by go_num, hz2, ((hE.alloc _).trans x2).trans x3, hTx2⟩
        case measure => simp [intOf]; omega
      · have hlo : (Tok.mk K P S U).low = (Tok.mk K P S U).w := by unfold Tok.low; rw [if_neg hk1]
        have hw2 : (B (Tok.mk K P S U).w).size ≤ 122 := by show (Tok.mk K P S U).w.length ≤ _; omega
        have q1 : (K == 1) = false := by simpa using hk1
        rw [hlo] at hst
        generalize (Tok.mk K P S U).w = y at *
        have hTx2 : Hid (tx ++ (y ++ 32 :: []) = strewn Tok.low [] (l.take (k + 1))) := by show _ = _; rw [hst, hTx.out]
        have ha2 : B tx ++ (B y ++ ⟨#[32]⟩) = B (tx ++ (y ++ 32 :: [])) := L_inj.1 (by simp only [L_append, L_B]; simp [L])
        have hz2 : (B (tx ++ (y ++ 32 :: []))).size ≤ 200 * (k + 1) := by
          have e1 : (B tx).size = tx.length := rfl
          have e2 : (B y).size = y.length := rfl
          show (tx ++ (y ++ 32 :: [])).length ≤ _
          simp only [List.length_append, List.length_cons, List.length_nil]
          omega
        clear hx h0U hw hst hlo hr hk1
        go_wp2_with (first
          | (go_at_call 7; (with_reducible refine p1.mono ?_); rintro e w2 ⟨rfl, x2⟩; obtain ⟨d0, d1, d2, d3⟩ := ((hT5.ext ((Ext.refl [] _).alloc _) (by simp)).ext x2 (by simp)).c4))
        go_roundw
        case rel => exact ⟨k + 1, _, by omega, rfl, by go_num, hz2, (hE.alloc _).trans x2, hTx2⟩
        case measure => simp [intOf]; omega
    · obtain rfl : k = l.length := by omega
      rw [List.take_length] at hTx
      have hrd : ∀ t ∈ l, Reads t.low t := fun t ht => reads_low t (hmr t ht).1 (hmr t ht).2
      obtain ⟨m2, s1, s2, s3, s4⟩ := scan_strewn Tok.low [] rfl l 0 hrd
      have hsc : scan 0 0 tx = (m2, none) := by rw [hTx.out, s1]
      have hml2 := sameL_length s2
      have hZ := hY.trans hX
      have tk := Tokens_any _ (B tx) (hG.ext hZ)
      unfold TokEnd at tk
      rw [L_B] at tk
      have hsz : (B tx).size = tx.length := rfl
      have sm := fun W vb ob2 (x : Ext [] w1 W) (h2 : Ts W vb ob2 m2) => Same_any W _ vb _ ob2 _ _ (T0.ext x (by simp)) h2 (by omega) (by omega)
      rw [s2] at sm
      clear hml2
      by_cases h600 : tx.length ≤ 600
      · obtain ⟨t1, t2, t3⟩ := tokens_ok h600 hsc
        rw [t1, t2, t3] at tk
        have h600' : (B tx).size ≤ 600 := h600
        clear hsc hrd s1 s2 s3 s4 t1 t2 t3 hTx h600 hsz hmr
        go_wp2_with (first
          | (go_at_call 8; (with_reducible refine tk.mono ?_); rintro e w2 ⟨v2, o2, rfl, T2, _, x2⟩; obtain ⟨a2, c2, rfl⟩ := T2.shape)
          | (go_at_call 9; (with_reducible refine (sm _ _ _ (hX.trans x2) T2).mono ?_); rintro e w3 ⟨rfl, x3⟩))
        go_ret
        exact ⟨rfl, (hZ.trans x2).trans x3⟩
      · obtain ⟨t1, t2, t3⟩ := tokens_longer (l := tx) (by omega)
        rw [t1, t2, t3] at tk
        have h600' : 600 < (B tx).size := by omega
        clear hsc hrd s1 s2 s3 s4 t1 t2 t3 hTx h600 hsz sm hmr
        go_wp2_with (go_at_call 8; (with_reducible refine tk.mono ?_); rintro e w2 ⟨v2, o2, rfl, T2, _, x2⟩; obtain ⟨a2, c2, rfl⟩ := T2.shape)
        go_ret
        exact ⟨rfl, hZ.trans x2⟩
theorem walkWrong_out (w : World) (s m : ByteArray) (hG : Glob w) (h : 400 < (s.size : Int) ∨ 100 < (m.size : Int)) :
    Calls Tryd.prog 5 #[.string s, .string m] w fun e w' => e = .returned (.bool true) ∧ Ext [] w w' := by
  by_cases h1 : 400 < (s.size : Int)
  · clear h
    go_enter Tryd.func5, Tryd.ntmps5
    go_wp2_with (go_at_call 6; refine (wakes_any _ hG).mono ?_; rintro e w0 ⟨rfl, h0⟩)
    go_ret
    exact ⟨rfl, h0⟩
  · have h2 : 100 < (m.size : Int) := by omega
    clear h
    go_enter Tryd.func5, Tryd.ntmps5
    go_wp2_with (go_at_call 6; refine (wakes_any _ hG).mono ?_; rintro e w0 ⟨rfl, h0⟩)
    go_ret
    exact ⟨rfl, h0⟩
set_option maxRecDepth 100000 in
theorem walk_LexWrong {H : Type} {enc : TypeId × Value → H} (W : World) (hG : Glob W) (v0 : Value) (d0 : DataW H) (p0 : List MemPlace) (base0 : Nat) (h0 : DataW.Trod enc Tryd.prog W 0 (fun _ => true) true 9 v0 d0 p0) (k0 : Value.okWide Tryd.prog W .any base0 9 v0) (v1 : Value) (d1 : DataW H) (p1 : List MemPlace) (base1 : Nat) (h1 : DataW.Trod enc Tryd.prog W 0 (fun _ => true) true 9 v1 d1 p1) (k1 : Value.okWide Tryd.prog W .any base1 9 v1) :
    Calls Tryd.prog 5 #[v0, v1] W fun e w' => e = .returned (.bool true) ∧ Below W.heap.size W w' := by
  obtain ⟨s, rfl⟩ := WideShapes.okWide_string Tryd.underlying9 k0
  obtain ⟨m, rfl⟩ := WideShapes.okWide_string Tryd.underlying9 k1
  by_cases h : s.size ≤ 400 ∧ m.size ≤ 100
  · by_cases hE : tokensE (L s) = 0
    · exact (walkWrong_good W s m hG h.1 h.2 hE).mono fun e w' r => ⟨r.1, r.2.below⟩
    · exact (walkWrong_bad W s m hG h.1 h.2 hE).mono fun e w' r => ⟨r.1, r.2.below⟩
  · exact (walkWrong_out W s m hG (by omega)).mono fun e w' r => ⟨r.1, r.2.below⟩
namespace lexWrong
open Go.ChangeShapes Go.WideShapes Go.ChangeAt Go.RowKit
set_option maxRecDepth 100000 in
theorem lifted (os : Os) (started : os.Started) (H : Type) (enc : TypeId × Value → H) :
    ReturnsInHanded {} Tryd.checked os 5 .any (fun w args => (Rows.lexWrongSpec.pre enc Tryd.prog Tryd.f5 Rows.lexWrongRow.domain false w args ∧ laidMetH Tryd.prog laidL w) ∧ sizedMet enc Tryd.prog Tryd.f5 (OpenSpec.ofChange Rows.lexWrongSpec) false w args) (Rows.lexWrongSpec.post enc Tryd.prog Tryd.f5 false true false false) := by
  refine returns_of_both (C := Tryd.checked) (X := fun w _ => laidMetH Tryd.prog laidL w) (fun _ _ _ hh h => h.of_heap hh) ownK started (by kernel_rfl) Tryd.func5
    (ChangeSpec.witness_shaped (enc := enc) (C := Tryd.checked) (os := os) (X := fun w _ => laidMetH Tryd.prog laidL w) false (World.laidAll Tryd.prog os laidL) #[.string (ByteArray.mk #[]), .string (ByteArray.mk #[])] 8 (World.laidAll_os _ _ _)
      (World.shaped_of_ZipB (by kernel_rfl) (by kernel_rfl)) (by kernel_rfl) (by kernel_rfl) (by kernel_rfl)
      (by rw [MakeChecks.laidMetH_plain _ _ _ (by kernel_rfl)]; exact laidMet_laidAll _ (by kernel_rfl) (by kernel_rfl))) ?_
  intro W base args ds gs before hval0 hW hL hS
  have hG := glob_of hL hS
  have hval : ∀ (j : Nat) t v, Tryd.f5.params[j]? = some t → args[j]? = some v → Value.okWide Tryd.prog W .any base t v := hval0
  have hW' := hW
  obtain ⟨p, q, hA0, hV, rfl, hfz, hnd⟩ := hW
  have hA : DataW.TrodAll enc Tryd.prog W 0 (fun _ => true) true Tryd.f5.params.toList args.toList ds p := hA0
  rw [Tryd.params5] at hA hval
  obtain ⟨v0, vs0, d0, ds0, p0, q0, hargs, rfl, rfl, h0, r0⟩ := trodAll_cons hA
  obtain ⟨v1, vs1, d1, ds1, p1, q1, rfl, rfl, rfl, h1, r1⟩ := trodAll_cons r0
  obtain ⟨rfl, rfl, rfl⟩ := trodAll_nil r1
  obtain rfl : args = #[v0, v1] := by cases args; simp_all
  obtain ⟨rfl, rfl⟩ := trodVars_none hV
  have lt0 : ∀ x ∈ p0, x.block < W.heap.size := by obtain ⟨m, hm⟩ := h0; exact DataW.trod_lt m _ _ _ hm
  have lt1 : ∀ x ∈ p1, x.block < W.heap.size := by obtain ⟨m, hm⟩ := h1; exact DataW.trod_lt m _ _ _ hm
  have k0 := hval 0 9 v0 rfl rfl
  have k1 := hval 1 9 v1 rfl rfl
  clear hA0 hval0
  refine (walk_LexWrong W hG v0 d0 p0 base h0 k0 v1 d1 p1 base h1 k1).mono fun e W' ⟨he, bel⟩ => ?_
  subst he
  exact ⟨_, rfl, _, _, _, [], _, [], hW', trodAll_mk1 (shut_bool Tryd.underlying4 _), (trodAll_cons_mk (Below.trod laidOut (by kernel_rfl) (of_decide_eq_true (by kernel_rfl)) h0 bel lt0) (trodAll_cons_mk (Below.trod laidOut (by kernel_rfl) (of_decide_eq_true (by kernel_rfl)) h1 bel lt1) trodAll_mk0)), rfl, bel.frame _, fun h => by cases h⟩
theorem over : Rows.lexWrongRow.holds Tryd.pinned (OpenSpec.ofChange Rows.lexWrongSpec) :=
  OpenClaim.holds_of_wide 5 Tryd.f5 rfl rfl rfl rfl rfl rfl rfl ⟨rfl, rfl, rfl, rfl, rfl⟩ rfl rfl rfl rfl rfl (by kernel_rfl) Tryd.func5 (by kernel_rfl)
    (of_decide_eq_true (by kernel_rfl)) (by unfold Func.isWrapper; first | (rw [if_pos (by decide +kernel)]; kernel_rfl) | (rw [if_neg (by decide +kernel)]; exact ⟨rfl, rfl⟩))
    (fun os started H enc _ => lifted os started H enc)
theorem proved : Rows.LexWrongCardSaid :=
  Claim7.holds_tied_plain_at .later [] [.data, .data, .data, .data, .sentinel, .sentinel, .data, .data, .pinned, .pinned] true (true, "584b3e1d95ef90a271cf2c3353ef51f6ea030b8fa1f2e122040b8c5164a880ba") true over (fun _ h => by cases h) (by kernel_rfl) (fun _ h => by cases h) lexWrong_row_tie rfl ⟨rfl, rfl⟩ (by kernel_rfl) rfl
    (fun f fn hf hfn => by
      obtain rfl : f = 5 := Option.some.inj ((show Tryd.prog.funcNamed "bowsprit/bowspritlaw07.LexWrong" = some 5 by kernel_rfl).symm.trans hf) |>.symm
      obtain rfl : fn = Tryd.f5 := (Option.some.inj (Tryd.func5.symm.trans hfn)).symm
      exact ⟨by kernel_rfl, fun j t ht => by
        rw [Tryd.params5] at ht
        have hm : t ∈ [9, 9] := by simpa using Array.mem_of_getElem? ht
        have hall : ([9, 9].all fun u => !Tryd.prog.wantsStandIn u) = true := by kernel_rfl
        exact (show Tryd.prog.wantsStandIn t = false by simpa using List.all_eq_true.1 hall t hm)⟩)
    (by kernel_rfl)
#print axioms proved
end lexWrong
end Go.Proofs.YtbenfgkomphlfaaDoor
