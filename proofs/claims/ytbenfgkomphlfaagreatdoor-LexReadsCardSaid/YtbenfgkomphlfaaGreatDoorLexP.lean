/-
  isToken, Check.
-/
import Derived.Test.YtbenfgkomphlfaaGreatDoorLexF
namespace Go.Proofs.YtbenfgkomphlfaaGreatDoor
open Go.RowKit
open Go.Lib hiding intOf
set_option linter.unusedVariables false

theorem isEmpty_L (s : ByteArray) : s.toList.isEmpty = (L s).isEmpty := by rw [ByteArray.toList_eq]; rfl
theorem isTok_number (w : World) (a n : Int) (s : ByteArray) :
    Calls Tryz.prog 36 #[TV 3 a s n] w fun e w' => e = .returned (.bool (isTok 3 (L s) n)) ∧ Ext [] w w' := by
  have he := isEmpty_L s
  unfold isTok
  rw [if_pos rfl]
  generalize (L s).isEmpty = b at *
  by_cases hn : n ≤ 9223372036854775807 <;> cases b
  all_goals
    simp only [hn, decide_true, decide_false, Bool.and_true, Bool.and_false]
    go_enter Tryz.func36, Tryz.ntmps36
    go_wp2
    go_ret
    exact ⟨rfl, by first | exact Ext.refl [] w | exact (Ext.refl [] w).alloc _ | exact ((Ext.refl [] w).alloc _).drew⟩
theorem isTok_odd (w : World) (k a n : Int) (s : ByteArray) (hk : k ≠ 3) (hn : n ≠ 0) :
    Calls Tryz.prog 36 #[TV k a s n] w fun e w' => e = .returned (.bool (isTok k (L s) n)) ∧ Ext [] w w' := by
  unfold isTok
  rw [if_neg hk, if_pos hn]
  go_enter Tryz.func36, Tryz.ntmps36
  go_wp2
  go_ret
  exact ⟨rfl, by first | exact Ext.refl [] w | exact (Ext.refl [] w).alloc _ | exact ((Ext.refl [] w).alloc _).drew⟩
theorem isTok_none (w : World) (k a : Int) (s : ByteArray) (h1 : k ≠ 1) (h2 : k ≠ 2) (h3 : k ≠ 3) (h4 : k ≠ 4) (h5 : k ≠ 5) :
    Calls Tryz.prog 36 #[TV k a s 0] w fun e w' => e = .returned (.bool (isTok k (L s) 0)) ∧ Ext [] w w' := by
  unfold isTok
  rw [if_neg h3, if_neg (by simp), if_neg h1, if_neg h2, if_neg h4, if_neg h5]
  go_enter Tryz.func36, Tryz.ntmps36
  go_wp2
  go_ret
  exact ⟨rfl, by first | exact Ext.refl [] w | exact (Ext.refl [] w).alloc _ | exact ((Ext.refl [] w).alloc _).drew⟩
theorem isTok_word (w : World) (a : Int) (s : ByteArray) (hG : Glob w) :
    Calls Tryz.prog 36 #[TV 1 a s 0] w fun e w' => e = .returned (.bool (isTok 1 (L s) 0)) ∧ Ext [] w w' := by
  have e0 : isTok 1 (L s) 0 = isWord (L s) := rfl
  rw [e0]
  have hw := fun W (g : Glob W) => IsWord_any W s g
  have hE := (Ext.refl [] w).alloc (.cells #[.int .i64 1, .int .i64 a, .string s, .int .u64 0] 29)
  go_enter Tryz.func36, Tryz.ntmps36
  go_wp2_with (go_at_call 49; refine (hw _ (hG.ext hE)).mono ?_; rintro e w1 ⟨rfl, rfl⟩)
  go_ret
  exact ⟨rfl, hE⟩
theorem isTok_name (w : World) (a : Int) (s : ByteArray) (hG : Glob w) :
    Calls Tryz.prog 36 #[TV 2 a s 0] w fun e w' => e = .returned (.bool (isTok 2 (L s) 0)) ∧ Ext [] w w' := by
  have e0 : isTok 2 (L s) 0 = isName (L s) := rfl
  rw [e0]
  have hw := fun W (g : Glob W) => IsName_any W s g
  have hE := (Ext.refl [] w).alloc (.cells #[.int .i64 2, .int .i64 a, .string s, .int .u64 0] 29)
  go_enter Tryz.func36, Tryz.ntmps36
  go_wp2_with (go_at_call 50; refine (hw _ (hG.ext hE)).mono ?_; rintro e w1 ⟨rfl, h1⟩)
  go_ret
  exact ⟨rfl, hE.trans h1⟩
theorem isTok_text (w : World) (a : Int) (s : ByteArray) (hs : s.size ≤ 1000000) :
    Calls Tryz.prog 36 #[TV 4 a s 0] w fun e w' => e = .returned (.bool (isTok 4 (L s) 0)) ∧ Ext [] w w' := by
  have e0 : isTok 4 (L s) 0 = isText (L s) := rfl
  rw [e0]
  have hw := fun W => isText_any W s hs
  have hE := (Ext.refl [] w).alloc (.cells #[.int .i64 4, .int .i64 a, .string s, .int .u64 0] 29)
  go_enter Tryz.func36, Tryz.ntmps36
  go_wp2_with (go_at_call 51; refine (hw _).mono ?_; rintro e w1 ⟨rfl, h1⟩)
  go_ret
  exact ⟨rfl, hE.trans h1⟩
theorem isTok_sign (w : World) (a : Int) (s : ByteArray) (hG : Glob w) :
    Calls Tryz.prog 36 #[TV 5 a s 0] w fun e w' => e = .returned (.bool (isTok 5 (L s) 0)) ∧ Ext [] w w' := by
  have e0 : isTok 5 (L s) 0 = (!(L s).isEmpty && (signOf (L s) == L s)) := rfl
  rw [e0]
  have hw := fun W (g : Glob W) => signOf_any W s g
  have he := isEmpty_L s
  generalize signOf (L s) = g at *
  have hgs : ((B g).toList == s.toList) = (g == L s) := by rw [ByteArray.toList_eq, ByteArray.toList_eq]; rfl
  generalize (g == L s) = c at *
  generalize (L s).isEmpty = b at *
  cases b
  · go_enter Tryz.func36, Tryz.ntmps36
    go_wp2
    have hE := (Ext.refl [] w).alloc (.cells #[.int .i64 5, .int .i64 a, .string s, .int .u64 0] 29)
    have hT := TB.new w 5 a s 0
    generalize w.alloc (.cells #[.int .i64 5, .int .i64 a, .string s, .int .u64 0] 29) = W at *
    obtain ⟨t0, t1, t2, t3⟩ := hT.c4
    go_region_with (go_at_call 48; (with_reducible refine (hw _ ?_).mono ?_); (exact hG.ext hE.drew); rintro e w1 ⟨rfl, rfl⟩)
    all_goals go_wp2
    all_goals go_ret
    all_goals exact ⟨rfl, by first | exact hE.drew | exact Ext.refl [] w | exact (Ext.refl [] w).alloc _ | exact ((Ext.refl [] w).alloc _).drew⟩
  · go_enter Tryz.func36, Tryz.ntmps36
    go_wp2
    have hE := (Ext.refl [] w).alloc (.cells #[.int .i64 5, .int .i64 a, .string s, .int .u64 0] 29)
    have hT := TB.new w 5 a s 0
    generalize w.alloc (.cells #[.int .i64 5, .int .i64 a, .string s, .int .u64 0] 29) = W at *
    obtain ⟨t0, t1, t2, t3⟩ := hT.c4
    go_region
    all_goals go_wp2
    all_goals go_ret
    all_goals exact ⟨rfl, by first | exact hE.drew | exact hE⟩
theorem isToken_any (w : World) (k a n : Int) (s : ByteArray) (hG : Glob w) (hs : s.size ≤ 1000000) :
    Calls Tryz.prog 36 #[TV k a s n] w fun e w' => e = .returned (.bool (isTok k (L s) n)) ∧ Ext [] w w' := by
  by_cases h3 : k = 3
  · subst h3; exact isTok_number w a n s
  by_cases hn : n = 0
  · subst hn
    by_cases h1 : k = 1
    · subst h1; exact isTok_word w a s hG
    by_cases h2 : k = 2
    · subst h2; exact isTok_name w a s hG
    by_cases h4 : k = 4
    · subst h4; exact isTok_text w a s hs
    by_cases h5 : k = 5
    · subst h5; exact isTok_sign w a s hG
    exact isTok_none w k a s h1 h2 h3 h4 h5
  · exact isTok_odd w k a n s h3 hn
theorem Check_any (w : World) (k a n : Int) (s : ByteArray) (hG : Glob w) (hs : s.size ≤ 1000000) :
    Calls Tryz.prog 20 #[TV k a s n] w fun e w' => e = .returned (.int .i64 (if (Tok.mk k a s n).right then 0 else 171)) ∧ Ext [] w w' := by
  unfold Tok.right
  have hw := fun W (g : Glob W) => isToken_any W k a n s g hs
  have hE := (Ext.refl [] w).alloc (.cells #[.int .i64 k, .int .i64 a, .string s, .int .u64 n] 29)
  have hT := TB.new w k a s n
  dsimp only
  generalize isTok k (L s) n = c at *
  have e : decide (0 ≤ a) = !decide (a < 0) := by by_cases h : a < 0 <;> simp [h] <;> omega
  rw [e]
  clear e
  by_cases ha : a < 0
  · simp only [ha, decide_true, Bool.not_true, Bool.false_and, if_false, reduceCtorEq]
    go_enter Tryz.func20, Tryz.ntmps20
    go_wp2
    go_ret
    exact ⟨rfl, hE⟩
  · have ha' : decide (a < 0) = false := decide_eq_false ha
    cases c
    all_goals
      simp only [ha', Bool.not_false, Bool.true_and, if_true, if_false, reduceCtorEq]
      go_enter Tryz.func20, Tryz.ntmps20
      go_wp2_with (go_at_call 36; (with_reducible refine (hw _ (hG.ext hE)).mono ?_); rintro e w1 ⟨rfl, h1⟩)
      go_ret
      exact ⟨rfl, hE.trans h1⟩
end Go.Proofs.YtbenfgkomphlfaaGreatDoor
