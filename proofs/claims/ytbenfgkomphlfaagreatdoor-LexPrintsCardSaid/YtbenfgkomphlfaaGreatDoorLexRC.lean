/-
  The reference: Right, Same.
-/
import Derived.Test.YtbenfgkomphlfaaGreatDoorLexRB
import Derived.Test.YtbenfgkomphlfaaGreatDoorLexU
import Derived.Test.YtbenfgkomphlfaaGreatDoorLexR
import Derived.Test.YtbenfgkomphlfaaGreatDoorLexP
namespace Go.Proofs.YtbenfgkomphlfaaGreatDoor
open Go.RowKit
open Go.Lib hiding intOf
set_option linter.unusedVariables false

theorem sign_ref (l : List UInt8) : (!l.isEmpty && (signOf l == l)) = refSigns.contains l := by
  have h1 : (signsL.all fun g => !g.isEmpty && (signOf g == g) && refSigns.contains g) = true := by decide
  have h2 : (refSigns.all fun g => signsL.contains g) = true := by decide
  by_cases hm : l ∈ signsL
  · have := List.all_eq_true.1 h1 l hm
    rw [Bool.and_eq_true] at this
    rw [this.1, this.2]
  · have e2 : refSigns.contains l = false := by
      cases h : refSigns.contains l with
      | false => rfl
      | true =>
        have := List.all_eq_true.1 h2 l (by simpa using h)
        exact absurd (by simpa using this) hm
    rw [e2]
    cases h : (!l.isEmpty && (signOf l == l)) with
    | false => rfl
    | true =>
      simp only [Bool.and_eq_true, beq_iff_eq, Bool.not_eq_true'] at h
      rcases (signOf_prefix l).2 with e | e
      · rw [← h.2, e] at h; simp at h
      · rw [h.2] at e; exact absurd e hm
theorem right_odd (k a n : Int) (s : ByteArray) (hk : k ≠ 3) (hn : n ≠ 0) : (Tok.mk k a s n).right = false := by
  unfold Tok.right isTok
  dsimp only
  rw [if_neg hk, if_pos hn, Bool.and_false]
theorem right_neg (k a n : Int) (s : ByteArray) (h : a < 0) : (Tok.mk k a s n).right = false := by
  unfold Tok.right
  dsimp only
  rw [decide_eq_false (by omega), Bool.false_and]
theorem right_on (k a n : Int) (s : ByteArray) (h : ¬ a < 0) : (Tok.mk k a s n).right = isTok k (L s) n := by
  unfold Tok.right
  dsimp only
  rw [decide_eq_true (by omega), Bool.true_and]
set_option maxHeartbeats 4000000 in
theorem Right_any (w : World) (k a n : Int) (s : ByteArray) (hs : s.size ≤ 1000000) :
    Calls Tryz.prog 8 #[TV k a s n] w fun e w' => e = .returned (.bool (Tok.mk k a s n).right) ∧ Ext [] w w' := by
  by_cases ha : a < 0
  · rw [right_neg k a n s ha]
    go_enter Tryz.func8, Tryz.ntmps8
    go_wp2
    go_ret
    exact ⟨rfl, (Ext.refl [] w).alloc _⟩
  · rw [right_on k a n s ha]
    have ha' : decide (a < 0) = false := decide_eq_false ha
    clear ha
    by_cases h3 : k = 3
    · subst h3
      have he := isEmpty_L s
      have e0 : isTok 3 (L s) n = ((L s).isEmpty && decide (n ≤ 9223372036854775807)) := rfl
      rw [e0]
      clear e0
      generalize (L s).isEmpty = b at *
      by_cases hn : n ≤ 9223372036854775807 <;> cases b
      all_goals
        simp only [hn, decide_true, decide_false, Bool.and_true, Bool.and_false]
        go_enter Tryz.func8, Tryz.ntmps8
        go_wp2
        go_ret
        exact ⟨rfl, (Ext.refl [] w).alloc _⟩
    · have h3' : (k != 3) = true := by simpa using h3
      by_cases hn : n = 0
      · subst hn
        have e0 : isTok k (L s) 0 = (if k = 1 then isWord (L s) else if k = 2 then isName (L s) else if k = 4 then isText (L s) else if k = 5 then refSigns.contains (L s) else false) := by
          unfold isTok
          rw [if_neg h3, if_neg (by simp), sign_ref]
        rw [e0]
        clear e0
        by_cases h1 : k = 1
        · subst h1
          have iw := fun W => rIsWord_any W (L s)
          rw [B_L] at iw
          rw [if_pos rfl]
          go_enter Tryz.func8, Tryz.ntmps8
          go_wp2_with (go_at_call 15; refine (iw _).mono ?_; rintro e w1 ⟨rfl, x1⟩)
          go_ret
          exact ⟨rfl, ((Ext.refl [] w).alloc _).trans x1⟩
        by_cases h2 : k = 2
        · subst h2
          have iw := fun W => rIsName_any W s
          rw [if_neg h1, if_pos rfl]
          go_enter Tryz.func8, Tryz.ntmps8
          go_wp2_with (go_at_call 16; refine (iw _).mono ?_; rintro e w1 ⟨rfl, x1⟩)
          go_ret
          exact ⟨rfl, ((Ext.refl [] w).alloc _).trans x1⟩
        by_cases h4 : k = 4
        · subst h4
          have iw := fun W => Plain_any W s hs
          rw [if_neg h1, if_neg h2, if_pos rfl]
          go_enter Tryz.func8, Tryz.ntmps8
          go_wp2_with (go_at_call 17; refine (iw _).mono ?_; rintro e w1 ⟨rfl, rfl⟩)
          go_ret
          exact ⟨rfl, (Ext.refl [] w).alloc _⟩
        by_cases h5 : k = 5
        · subst h5
          have iw := fun W v ob (h : Ss W v ob refSigns) => has_any W v ob refSigns (L s) h (by decide)
          rw [B_L] at iw
          rw [if_neg h1, if_neg h2, if_neg h4, if_pos rfl]
          generalize refSigns.contains (L s) = c at *
          have hT := TB.new w 5 a s 0
          go_enter Tryz.func8, Tryz.ntmps8
          go_wp2
          have hE := (Ext.refl [] w).alloc (.cells #[.int .i64 5, .int .i64 a, .string s, .int .u64 0] 29)
          generalize w.alloc (.cells #[.int .i64 5, .int .i64 a, .string s, .int .u64 0] 29) = W at *
          obtain ⟨t0, t1, t2, t3⟩ := hT.c4
          go_region_with (first
            | (go_at_call 19; refine (Signs_any _).mono ?_; rintro e w1 ⟨v, ob, rfl, hS, x1⟩; have x2 := hE.drew.trans x1; obtain ⟨d0, d1, d2, d3⟩ := ((hT.ext (Ext.refl [] W).drew (by simp)).ext x1 (by simp)).c4)
            | (go_at_call 18; refine (iw _ _ _ hS).mono ?_; rintro e w2 ⟨rfl, rfl⟩))
          all_goals go_wp2
          all_goals go_ret
          all_goals exact ⟨rfl, x2⟩
        rw [if_neg h1, if_neg h2, if_neg h4, if_neg h5]
        go_enter Tryz.func8, Tryz.ntmps8
        go_wp2
        go_ret
        exact ⟨rfl, (Ext.refl [] w).alloc _⟩
      · have e0 : isTok k (L s) n = false := by unfold isTok; rw [if_neg h3, if_pos hn]
        rw [e0]
        clear e0
        have hn' : (n != 0) = true := by simpa using hn
        go_enter Tryz.func8, Tryz.ntmps8
        go_wp2
        go_ret
        exact ⟨rfl, (Ext.refl [] w).alloc _⟩
set_option maxRecDepth 100000 in
set_option maxHeartbeats 2000000 in
theorem rSame_any (w : World) (va vb : Value) (oa ob : Nat) (l m : List Tok) (ha : Ts w va oa l) (hb : Ts w vb ob m) (hl : l.length ≤ 10000) (hm : m.length ≤ 10000) :
    Calls Tryz.prog 11 #[va, vb] w fun e w' => e = .returned (.bool (sameL l m)) ∧ Ext [] w w' := by
  obtain ⟨a, ca, rfl⟩ := ha.shape
  obtain ⟨b, cb, rfl⟩ := hb.shape
  by_cases hlm : l.length = m.length
  · have HL := Lib.hid hlm
    have hne : ((l.length : Int) != (m.length : Int)) = false := by simp; omega
    clear hlm
    go_enter Tryz.func11, Tryz.ntmps11
    go_wp2
    go_loopw [5] (fun i wr => ∃ k : Nat, k ≤ l.length ∧ i = .int .i64 k ∧ Ext [] w wr ∧ Hid (sameL (l.drop k) (m.drop k) = sameL l m)) (fun i _ => l.length - (intOf i).toNat)
    case atStart => exact ⟨0, by omega, rfl, Ext.refl _ _, rfl⟩
    case round =>
      obtain ⟨k, hk, rfl, hX, hS⟩ := hrel
      by_cases hlt : k < l.length
      · have hlt2 : k < m.length := by have := HL.out; omega
        obtain ⟨o, K, P, S, U, rfl, hx, c0, c1, c2, c3⟩ := (ha.ext hX (by simp)).at k hlt
        obtain ⟨o', K', P', S', U', rfl, hx', d0, d1, d2, d3⟩ := (hb.ext hX (by simp)).at k hlt2
        have e1 : l.drop k = ⟨K, P, S, U⟩ :: l.drop (k + 1) := by
          rw [List.drop_eq_getElem_cons hlt]
          congr 1
          exact (List.getElem?_eq_some_iff.1 hx).2
        have e2 : m.drop k = ⟨K', P', S', U'⟩ :: m.drop (k + 1) := by
          rw [List.drop_eq_getElem_cons hlt2]
          congr 1
          exact (List.getElem?_eq_some_iff.1 hx').2
        have hst : sameTok ⟨K, P, S, U⟩ ⟨K', P', S', U'⟩ = (!(K != K') && (S.toList == S'.toList) && !(U != U')) := by
          unfold sameTok
          have := toList_eq S S'
          rw [this]
          by_cases h1 : K = K' <;> by_cases h2 : S = S' <;> by_cases h3 : U = U' <;> simp [h1, h2, h3]
        have hyes : sameTok ⟨K, P, S, U⟩ ⟨K', P', S', U'⟩ = true → Hid (sameL (l.drop (k + 1)) (m.drop (k + 1)) = sameL l m) := fun h => by show _ = _; rw [← hS.out, e1, e2, sameL, h, Bool.true_and]
        have hno : sameTok ⟨K, P, S, U⟩ ⟨K', P', S', U'⟩ = false → Hid (sameL l m = false) := fun h => by show _ = _; rw [← hS.out, e1, e2, sameL, h, Bool.false_and]
        rw [hst] at hyes hno
        clear hst e1 e2 hS hx hx'
        cases q1 : (K != K')
        · cases q2 : (S.toList == S'.toList)
          rotate_left
          · cases q3 : (U != U')
            · have HS := hyes (by rw [q1, q2, q3]; rfl)
              clear hyes hno
              go_wp2
              go_quiet (fail)
              go_wp2
              go_roundw
              case rel => exact ⟨k + 1, by omega, by go_num, hX.drewN _, HS⟩
              case measure => simp [intOf]; omega
            · have HS := hno (by rw [q1, q2, q3]; rfl)
              clear hyes hno
              go_wp2
              go_quiet (fail)
              go_wp2
              go_ret
              exact ⟨ret_bool HS.out.symm, hX.drewN _⟩
          · have HS := hno (by rw [q1, q2]; rfl)
            clear hyes hno
            go_wp2
            go_quiet (fail)
            go_wp2
            go_ret
            exact ⟨ret_bool HS.out.symm, hX.drewN _⟩
        · have HS := hno (by rw [q1]; rfl)
          clear hyes hno
          go_wp2
          go_quiet (fail)
          go_wp2
          go_ret
          exact ⟨ret_bool HS.out.symm, hX.drewN _⟩
      · have HS : Hid (sameL l m = true) := by show _ = _; rw [← hS.out, List.drop_eq_nil_of_le (by omega), List.drop_eq_nil_of_le (by have := HL.out; omega)]; rfl
        clear hS
        go_wp2
        go_ret
        exact ⟨ret_bool HS.out.symm, hX⟩
  · have HS := Lib.hid (sameL_len l m hlm)
    have hne : ((l.length : Int) != (m.length : Int)) = true := by simp; omega
    go_enter Tryz.func11, Tryz.ntmps11
    go_wp2
    go_ret
    exact ⟨ret_bool HS.out.symm, Ext.refl _ _⟩
end Go.Proofs.YtbenfgkomphlfaaGreatDoor
