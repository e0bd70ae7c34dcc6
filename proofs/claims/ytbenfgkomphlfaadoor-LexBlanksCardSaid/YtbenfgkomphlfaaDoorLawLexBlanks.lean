/-
  bowspritlaw07.LexBlanks.
-/
import Derived.Test.YtbenfgkomphlfaaDoorLexT
import Derived.Test.YtbenfgkomphlfaaDoorCards
import Derived.Test.YtbenfgkomphlfaaDoorTie
import Derived.Test.YtbenfgkomphlfaaDoorLexR
import Derived.Test.YtbenfgkomphlfaaDoorLexS
import Derived.Test.YtbenfgkomphlfaaDoorLexU
import Derived.Test.YtbenfgkomphlfaaDoorLexV
import Derived.Test.YtbenfgkomphlfaaDoorLexX
import Derived.SevenTiedAt
import Derived.ChangeOld
namespace Go.Proofs.YtbenfgkomphlfaaDoor
open Go.RowKit
open Go.Lib hiding intOf
set_option linter.unusedVariables false

theorem one_text (W : World) (c : UInt8) : (convert 34 9 (.slice (some ⟨W.heap.size, 0, none⟩) 1 1)).run Tryd.prog (W.alloc (.cells #[.int .u8 (c.toNat : Int)] 5)) = .ok (.string (B [c])) (W.alloc (.cells #[.int .u8 (c.toNat : Int)] 5)) := by
  have e : strOfNums ([c].map fun x => (x.toNat : Int)) = B [c] := by
    unfold strOfNums
    simp
    rfl
  rw [← e]
  refine run_convert_bytes_arg (P := Tryd.prog) _ _ _ Tryd.underlying34 Tryd.underlying5 W.heap.size 0 1 1 _ (by simp) (fun i hi => ?_) _ Tryd.underlying9
  obtain rfl : i = 0 := by omega
  simp [go_sem]
theorem blank_cases (c : UInt8) : (((c.toNat : Int) == 32) = true ∧ spans cBlank c = true) ∨ (((c.toNat : Int) == 32) = false ∧ ((c.toNat : Int) == 9) = true ∧ spans cBlank c = true) ∨
    (((c.toNat : Int) == 32) = false ∧ ((c.toNat : Int) == 9) = false ∧ ((c.toNat : Int) == 10) = true ∧ spans cBlank c = true) ∨
    (((c.toNat : Int) == 32) = false ∧ ((c.toNat : Int) == 9) = false ∧ ((c.toNat : Int) == 10) = false ∧ ((c.toNat : Int) == 13) = true ∧ spans cBlank c = true) ∨
    (((c.toNat : Int) == 32) = false ∧ ((c.toNat : Int) == 9) = false ∧ ((c.toNat : Int) == 10) = false ∧ ((c.toNat : Int) == 13) = false) := by
  simp [spans]
  omega
set_option maxRecDepth 100000 in
set_option maxHeartbeats 4000000 in
theorem walkBlanks_in (w : World) (v : Value) (ob : Nat) (l : List Tok) (s : ByteArray) (hT : Ts w v ob l) (hG : Glob w) (hl : l.length ≤ 60) (hs : s.size ≤ 1000) (hn : ∀ t ∈ l, 0 ≤ t.n) :
    Calls Tryd.prog 4 #[v, .string s] w fun e w' => e = .returned (.bool true) ∧ Ext [] w w' := by
  obtain ⟨a, cap, rfl⟩ := hT.shape
  go_enter Tryd.func4, Tryd.ntmps4
  go_wp2_with (go_at_call 6; refine (wakes_any _ hG).mono ?_; rintro e w0 ⟨rfl, h0⟩)
  go_loopw [5, 30] (fun b i wr => ∃ (k : Nat) (bl : List UInt8), k ≤ s.size ∧ b = .string (B bl) ∧ i = .int .i64 k ∧ (B bl).size ≤ 5 ∧ Ext [] w wr ∧ Hid (bl.all (spans cBlank) = true)) (fun b i _ => s.size - (intOf i).toNat)
  case atStart => exact ⟨0, [], by omega, rfl, rfl, by decide, h0, rfl⟩
  case round =>
    obtain ⟨k, bl, hk, rfl, rfl, hb5, hX, hB⟩ := hrel
    clear h0
    by_cases hlt : k < s.size
    · have b0 := (s[k]'hlt).toNat_lt
      have hcv := fun W => one_text W (s[k]'hlt)
      by_cases hb : (B bl).size < 5
      · have happ : ∀ c, spans cBlank c = true → Hid ((bl ++ [c]).all (spans cBlank) = true) := fun c hc => by
          show _ = _
          rw [List.all_append, hB.out]; simp [hc]
        rcases blank_cases (s[k]'hlt) with ⟨e1, hc⟩ | ⟨e1, e2, hc⟩ | ⟨e1, e2, e3, hc⟩ | ⟨e1, e2, e3, e4, hc⟩ | ⟨e1, e2, e3, e4⟩
        iterate 4
          next =>
              have hB2 := happ _ hc
              have hz2 : (B (bl ++ [s[k]'hlt])).size = (B bl).size + 1 := by show (bl ++ [s[k]'hlt]).length = bl.length + 1; simp
              have ha2 : B bl ++ B [s[k]'hlt] = B (bl ++ [s[k]'hlt]) := L_inj.1 (by rw [L_append, L_B, L_B, L_B])
              have hs1 : (B [s[k]'hlt]).size = 1 := rfl
              clear happ hc hB
              go_wp2
              go_roundw
              case rel => exact ⟨k + 1, _, by omega, rfl, by go_num, by omega, hX.alloc _, hB2⟩
              case measure => simp [intOf]; omega
        · clear happ
          go_wp2
          go_roundw
          case rel => exact ⟨k + 1, bl, by omega, rfl, by go_num, by omega, hX, hB⟩
          case measure => simp [intOf]; omega
      · rcases blank_cases (s[k]'hlt) with ⟨e1, hc⟩ | ⟨e1, e2, hc⟩ | ⟨e1, e2, e3, hc⟩ | ⟨e1, e2, e3, e4, hc⟩ | ⟨e1, e2, e3, e4⟩
        all_goals
          (try clear hc)
          go_wp2
          go_roundw
          case rel => exact ⟨k + 1, bl, by omega, rfl, by go_num, by omega, hX, hB⟩
          case measure => simp [intOf]; omega
    · obtain rfl : k = s.size := by omega
      go_wp2
      go_loopw [8, 64] (fun x i wr => ∃ (k : Nat) (tx : List UInt8), k ≤ l.length ∧ x = .string (B tx) ∧ i = .int .i64 k ∧ (B tx).size ≤ 300 * k + 5 ∧ Ext [] w wr ∧ Hid (tx = bl ++ strewn Tok.w bl (l.take k)) ∧ Hid ((l.take k).all Tok.right = true)) (fun x i _ => l.length - (intOf i).toNat)
      case atStart => exact ⟨0, bl, by omega, rfl, rfl, by omega, hX, by simp [Hid, strewn], rfl⟩
      case round =>
        clear hX
        obtain ⟨k, tx, hk, rfl, rfl, hz, hX, hTx, hR⟩ := hrel
        by_cases hlt : k < l.length
        · obtain ⟨o, K, P, S, U, rfl, hx, c0, c1, c2, c3⟩ := (hT.ext hX (by simp)).at k hlt
          have h0U : 0 ≤ U := hn _ (List.mem_of_getElem? hx)
          have hE := hX.alloc (.cells #[.int .i64 K, .int .i64 P, .string S, .int .u64 U] 26)
          by_cases hS : S.size ≤ 100
          · have p1 := print_one _ K P U S (hG.ext hE) (by omega) h0U
            rw [show (wr.alloc (.cells #[.int .i64 K, .int .i64 P, .string S, .int .u64 U] 26)).heap.size = wr.heap.size + 1 by simp] at p1
            cases hr : Tok.right ⟨K, P, S, U⟩
            · rw [hr] at p1
              clear hr hx hn h0U
              go_wp2_with (go_at_call 7; (with_reducible refine p1.mono ?_); rintro e w1 ⟨rfl, x1⟩)
              go_ret
              exact ⟨ret_bool (isEmpty_L (B [])), (hE.alloc _).trans x1⟩
            · rw [hr] at p1
              have hw := w_len ⟨K, P, S, U⟩ hr h0U
              have hst := strewn_succ Tok.w bl l k _ hx
              have hR2 := Lib.hid (all_take_succ hx hR.out hr)
              dsimp only at hw
              have hw2 : (B (Tok.mk K P S U).w).size ≤ 222 := by show (Tok.mk K P S U).w.length ≤ _; omega
              simp only [if_true] at p1
              generalize (Tok.mk K P S U).w = x at *
              have hTx2 : Hid (tx ++ (x ++ 32 :: bl) = bl ++ strewn Tok.w bl (l.take (k + 1))) := by show _ = _; rw [hst, hTx.out, List.append_assoc]
              have ha2 : B tx ++ (B x ++ ⟨#[32]⟩ ++ B bl) = B (tx ++ (x ++ 32 :: bl)) := L_inj.1 (by simp only [L_append, L_B]; simp [L])
              have hz2 : (B (tx ++ (x ++ 32 :: bl))).size ≤ 300 * (k + 1) + 5 := by
                have e1 : (B tx).size = tx.length := rfl
                have e2 : (B x).size = x.length := rfl
                have e3 : (B bl).size = bl.length := rfl
                show (tx ++ (x ++ 32 :: bl)).length ≤ _
                simp only [List.length_append, List.length_cons]
                omega
              clear hr hx hn h0U hw hst
              go_wp2_with (go_at_call 7; (with_reducible refine p1.mono ?_); rintro e w1 ⟨rfl, x1⟩)
              go_roundw
              case rel => exact ⟨k + 1, _, by omega, rfl, by go_num, hz2, (hE.alloc _).trans x1, hTx2, hR2⟩
              case measure => simp [intOf]; omega
          · clear hn hx
            go_wp2
            go_ret
            exact ⟨rfl, hE⟩
        · obtain rfl : k = l.length := by omega
          rw [List.take_length] at hTx hR
          have hrd : ∀ t ∈ l, Reads t.w t := fun t ht => right_reads t (List.all_eq_true.1 hR.out t ht) (hn t ht)
          obtain ⟨m, s1, s2, s3, s4⟩ := scan_strewn Tok.w bl hB.out l (0 + bl.length) hrd
          have hsc : scan 0 0 tx = (m, none) := by rw [hTx.out, scan_blanks bl _ 0 hB.out, s1]
          have hlen : tx.length = bl.length + (strewn Tok.w bl l).length := by rw [hTx.out, List.length_append]
          have hml := sameL_length s2
          have tk := Tokens_any _ (B tx) (hG.ext hX)
          unfold TokEnd at tk
          rw [L_B] at tk
          have hsz : (B tx).size = tx.length := rfl
          have sm := fun W vb ob2 (x : Ext [] w W) (h2 : Ts W vb ob2 m) => Same_any W _ vb ob ob2 _ _ (hT.ext x (by simp)) h2 (by omega) (by omega)
          rw [s2] at sm
          have hm2 : m.length ≤ 60 := by omega
          clear hml
          by_cases h600 : tx.length ≤ 600
          · obtain ⟨t1, t2, t3⟩ := tokens_ok h600 hsc
            rw [t1, t2, t3] at tk
            have hP := Lib.hid (And.intro s3 s4)
            have h600' : (B tx).size ≤ 600 := h600
            have hl2 : bl.length ≤ 5 := hb5
            have HL : Hid ((B tx).size = bl.length + (strewn Tok.w bl l).length) := hlen
            clear hsc hrd s1 s2 s3 s4 t1 t2 t3 hR hTx hB hn h600 hlen hsz
            go_wp2_with (first
              | (go_at_call 8; (with_reducible refine tk.mono ?_); rintro e w1 ⟨v2, o2, rfl, T2, _, x1⟩; obtain ⟨a2, c2, rfl⟩ := T2.shape)
              | (go_at_call 9; (with_reducible refine (sm _ _ _ (hX.trans x1) T2).mono ?_); rintro e w2 ⟨rfl, x2⟩))
            have hY := (hX.trans x1).trans x2
            have T3 := T2.ext x2 (by simp)
            clear T2 tk sm x1 x2 hX
            go_loopw [110] (fun i wr => ∃ k : Nat, k ≤ m.length ∧ i = .int .i64 k ∧ Ext [] w2 wr) (fun i _ => m.length - (intOf i).toNat)
            case atStart => exact ⟨0, by omega, rfl, Ext.refl _ _⟩
            case round =>
              obtain ⟨k, hk, rfl, hX⟩ := hrel
              by_cases hlt : k < m.length
              · obtain ⟨o, K, P, S, U, rfl, hx, c0, c1, c2, c3⟩ := (T3.ext hX (by simp)).at k hlt
                have hp0 := hP.out.1 _ (List.mem_of_getElem? hx)
                dsimp only at hp0
                have q1 : decide (P < 0) = false := by simp; omega
                have q2 : decide (((B tx).size : Int) ≤ P) = false := by have := HL.out; simp; omega
                have hT5 := TB.new wr K P S U
                have hE := hX.alloc (.cells #[.int .i64 K, .int .i64 P, .string S, .int .u64 U] 26)
                by_cases hk0 : k = 0
                · have q0 : decide (0 < k) = false := by simp; omega
                  clear hp0 hx hk0
                  go_wp2
                  generalize wr.alloc (.cells #[.int .i64 K, .int .i64 P, .string S, .int .u64 U] 26) = W at *
                  obtain ⟨d0, d1, d2, d3⟩ := hT5.c4
                  go_quiet (fail)
                  go_wp2
                  go_roundw
                  case rel => exact ⟨k + 1, by omega, by go_num, hE.drewN _⟩
                  case measure => simp [intOf]; omega
                · obtain ⟨j, rfl⟩ : ∃ j, k = j + 1 := ⟨k - 1, by omega⟩
                  obtain ⟨o', K', P', S', U', e0, hx', f0, f1, f2, f3⟩ := (T3.ext hE (by simp)).at j (by omega)
                  have q3 : decide (P ≤ P') = false := by
                    have := List.pairwise_iff_getElem.1 hP.out.2 j (j + 1) (by omega) (by omega) (by omega)
                    rw [(List.getElem?_eq_some_iff.1 hx).2, (List.getElem?_eq_some_iff.1 hx').2] at this
                    dsimp only at this
                    simp; omega
                  simp only [Option.some.injEq, Addr.mk.injEq, true_and, and_true] at e0
                  subst e0
                  clear hp0 hx hx'
                  go_wp2
                  generalize wr.alloc (.cells #[.int .i64 K, .int .i64 P, .string S, .int .u64 U] 26) = W at *
                  obtain ⟨d0, d1, d2, d3⟩ := hT5.c4
                  go_quiet (fail)
                  go_wp2
                  go_roundw
                  case rel => exact ⟨j + 1 + 1, by omega, by go_num, hE.drewN _⟩
                  case measure => simp [intOf]; omega
              · obtain rfl : k = m.length := by omega
                go_wp2
                go_ret
                exact ⟨rfl, hY.trans hX⟩
          · obtain ⟨t1, t2, t3⟩ := tokens_longer (l := tx) (by omega)
            rw [t1, t2, t3] at tk
            have h600' : 600 < (B tx).size := by omega
            clear hsc hrd s1 s2 s3 s4 t1 t2 t3 hR hTx hB hn h600 hlen hsz sm
            go_wp2_with (go_at_call 8; (with_reducible refine tk.mono ?_); rintro e w1 ⟨v2, o2, rfl, T2, _, x1⟩; obtain ⟨a2, c2, rfl⟩ := T2.shape)
            go_ret
            exact ⟨rfl, hX.trans x1⟩
theorem walkBlanks_out (w : World) (v : Value) (ob : Nat) (l : List Tok) (s : ByteArray) (hT : Ts w v ob l) (hG : Glob w) (h : 60 < (l.length : Int) ∨ 1000 < (s.size : Int)) :
    Calls Tryd.prog 4 #[v, .string s] w fun e w' => e = .returned (.bool true) ∧ Ext [] w w' := by
  obtain ⟨a, cap, rfl⟩ := hT.shape
  by_cases h1 : 60 < (l.length : Int)
  · clear h
    go_enter Tryd.func4, Tryd.ntmps4
    go_wp2_with (go_at_call 6; refine (wakes_any _ hG).mono ?_; rintro e w0 ⟨rfl, h0⟩)
    go_ret
    exact ⟨rfl, h0⟩
  · have h2 : 1000 < (s.size : Int) := by omega
    clear h
    go_enter Tryd.func4, Tryd.ntmps4
    go_wp2_with (go_at_call 6; refine (wakes_any _ hG).mono ?_; rintro e w0 ⟨rfl, h0⟩)
    go_ret
    exact ⟨rfl, h0⟩
set_option maxRecDepth 100000 in
theorem walk_LexBlanks {H : Type} {enc : TypeId × Value → H} (W : World) (hG : Glob W) (v0 : Value) (d0 : DataW H) (p0 : List MemPlace) (base0 : Nat) (h0 : DataW.Trod enc Tryd.prog W 0 (fun _ => true) true 22 v0 d0 p0) (k0 : Value.okWide Tryd.prog W .any base0 22 v0) (v1 : Value) (d1 : DataW H) (p1 : List MemPlace) (base1 : Nat) (h1 : DataW.Trod enc Tryd.prog W 0 (fun _ => true) true 9 v1 d1 p1) (k1 : Value.okWide Tryd.prog W .any base1 9 v1) :
    Calls Tryd.prog 4 #[v0, v1] W fun e w' => e = .returned (.bool true) ∧ Below W.heap.size W w' := by
  obtain ⟨ob, l, hT, hn⟩ := read_toks h0 k0
  obtain ⟨s, rfl⟩ := WideShapes.okWide_string Tryd.underlying9 k1
  by_cases h : l.length ≤ 60 ∧ s.size ≤ 1000
  · exact (walkBlanks_in W v0 ob l s hT hG h.1 h.2 (fun t ht => (hn t ht).1)).mono fun e w' r => ⟨r.1, r.2.below⟩
  · exact (walkBlanks_out W v0 ob l s hT hG (by omega)).mono fun e w' r => ⟨r.1, r.2.below⟩
namespace lexBlanks
open Go.ChangeShapes Go.WideShapes Go.ChangeAt Go.RowKit
set_option maxRecDepth 100000 in
theorem lifted (os : Os) (started : os.Started) (H : Type) (enc : TypeId × Value → H) :
    ReturnsInHanded {} Tryd.checked os 4 .any (fun w args => (Rows.lexBlanksSpec.pre enc Tryd.prog Tryd.f4 Rows.lexBlanksRow.domain false w args ∧ laidMetH Tryd.prog laidL w) ∧ sizedMet enc Tryd.prog Tryd.f4 (OpenSpec.ofChange Rows.lexBlanksSpec) false w args) (Rows.lexBlanksSpec.post enc Tryd.prog Tryd.f4 false true false false) := by
  refine returns_of_both (C := Tryd.checked) (X := fun w _ => laidMetH Tryd.prog laidL w) (fun _ _ _ hh h => h.of_heap hh) ownK started (by kernel_rfl) Tryd.func4
    (ChangeSpec.witness_shaped (enc := enc) (C := Tryd.checked) (os := os) (X := fun w _ => laidMetH Tryd.prog laidL w) false (World.laidAll Tryd.prog os laidL) #[.slice none 0 0, .string (ByteArray.mk #[])] 8 (World.laidAll_os _ _ _)
      (World.shaped_of_ZipB (by kernel_rfl) (by kernel_rfl)) (by kernel_rfl) (by kernel_rfl) (by kernel_rfl)
      (by rw [MakeChecks.laidMetH_plain _ _ _ (by kernel_rfl)]; exact laidMet_laidAll _ (by kernel_rfl) (by kernel_rfl))) ?_
  intro W base args ds gs before hval0 hW hL hS
  have hG := glob_of hL hS
  have hval : ∀ (j : Nat) t v, Tryd.f4.params[j]? = some t → args[j]? = some v → Value.okWide Tryd.prog W .any base t v := hval0
  have hW' := hW
  obtain ⟨p, q, hA0, hV, rfl, hfz, hnd⟩ := hW
  have hA : DataW.TrodAll enc Tryd.prog W 0 (fun _ => true) true Tryd.f4.params.toList args.toList ds p := hA0
  rw [Tryd.params4] at hA hval
  obtain ⟨v0, vs0, d0, ds0, p0, q0, hargs, rfl, rfl, h0, r0⟩ := trodAll_cons hA
  obtain ⟨v1, vs1, d1, ds1, p1, q1, rfl, rfl, rfl, h1, r1⟩ := trodAll_cons r0
  obtain ⟨rfl, rfl, rfl⟩ := trodAll_nil r1
  obtain rfl : args = #[v0, v1] := by cases args; simp_all
  obtain ⟨rfl, rfl⟩ := trodVars_none hV
  have lt0 : ∀ x ∈ p0, x.block < W.heap.size := by obtain ⟨m, hm⟩ := h0; exact DataW.trod_lt m _ _ _ hm
  have lt1 : ∀ x ∈ p1, x.block < W.heap.size := by obtain ⟨m, hm⟩ := h1; exact DataW.trod_lt m _ _ _ hm
  have k0 := hval 0 22 v0 rfl rfl
  have k1 := hval 1 9 v1 rfl rfl
  clear hA0 hval0
  refine (walk_LexBlanks W hG v0 d0 p0 base h0 k0 v1 d1 p1 base h1 k1).mono fun e W' ⟨he, bel⟩ => ?_
  subst he
  exact ⟨_, rfl, _, _, _, [], _, [], hW', trodAll_mk1 (shut_bool Tryd.underlying4 _), (trodAll_cons_mk (Below.trod laidOut (by kernel_rfl) (of_decide_eq_true (by kernel_rfl)) h0 bel lt0) (trodAll_cons_mk (Below.trod laidOut (by kernel_rfl) (of_decide_eq_true (by kernel_rfl)) h1 bel lt1) trodAll_mk0)), rfl, bel.frame _, fun h => by cases h⟩
theorem over : Rows.lexBlanksRow.holds Tryd.pinned (OpenSpec.ofChange Rows.lexBlanksSpec) :=
  OpenClaim.holds_of_wide 4 Tryd.f4 rfl rfl rfl rfl rfl rfl rfl ⟨rfl, rfl, rfl, rfl, rfl⟩ rfl rfl rfl rfl rfl (by kernel_rfl) Tryd.func4 (by kernel_rfl)
    (of_decide_eq_true (by kernel_rfl)) (by unfold Func.isWrapper; first | (rw [if_pos (by decide +kernel)]; kernel_rfl) | (rw [if_neg (by decide +kernel)]; exact ⟨rfl, rfl⟩))
    (fun os started H enc _ => lifted os started H enc)
theorem proved : Rows.LexBlanksCardSaid :=
  Claim7.holds_tied_plain_at .later [] [.data, .data, .data, .data, .sentinel, .sentinel, .data, .data, .pinned, .pinned] true (true, "584b3e1d95ef90a271cf2c3353ef51f6ea030b8fa1f2e122040b8c5164a880ba") true over (fun _ h => by cases h) (by kernel_rfl) (fun _ h => by cases h) lexBlanks_row_tie rfl ⟨rfl, rfl⟩ (by kernel_rfl) rfl
    (fun f fn hf hfn => by
      obtain rfl : f = 4 := Option.some.inj ((show Tryd.prog.funcNamed "bowsprit/bowspritlaw07.LexBlanks" = some 4 by kernel_rfl).symm.trans hf) |>.symm
      obtain rfl : fn = Tryd.f4 := (Option.some.inj (Tryd.func4.symm.trans hfn)).symm
      exact ⟨by kernel_rfl, fun j t ht => by
        rw [Tryd.params4] at ht
        have hm : t ∈ [22, 9] := by simpa using Array.mem_of_getElem? ht
        have hall : ([22, 9].all fun u => !Tryd.prog.wantsStandIn u) = true := by kernel_rfl
        exact (show Tryd.prog.wantsStandIn t = false by simpa using List.all_eq_true.1 hall t hm)⟩)
    (by kernel_rfl)
#print axioms proved
end lexBlanks
end Go.Proofs.YtbenfgkomphlfaaDoor
