
/-
  What CatalogWrong comes to.
-/
import Derived.Test.YtibmjfihfljiiaaDoorCatVC
import Derived.Test.YtibmjfihfljiiaaDoorCatPD
namespace Go.Proofs.YtibmjfihfljiiaaDoor
open Go.RowKit
open Go.Lib hiding intOf
set_option linter.unusedVariables false

theorem SIndexByte_any (w : World) (s : ByteArray) (c : Int) :
    Calls Tryd.prog 28 #[.string s, .int .u8 c] w fun e w' => e = .returned (.int .i64 (Lib.indexByte (L s) c.toNat.toUInt8)) ∧ Ext [] w w' := by
  have h := IndexByte_any w s c
  go_enter Tryd.func28, Tryd.ntmps28
  go_wp2_with (go_at_call 47; (with_reducible refine h.mono ?_); rintro e w1 ⟨rfl, rfl⟩)
  go_ret
  exact ⟨rfl, Ext.refl _ _⟩
set_option maxRecDepth 100000 in
set_option maxHeartbeats 4000000 in
theorem wrong_in (w : World) (text more : ByteArray) (hG : Glob w) :
    Calls Tryd.prog 6 #[.string text, .string more] w fun e w' => e = .returned (.bool true) ∧ Ext [] w w' := by
  have hwk := wakes_any w hG
  by_cases h1 : 600 < text.size
  · have q1 : decide ((600 : Int) < (text.size : Int)) = true := by simp; omega
    go_enter Tryd.func6, Tryd.ntmps6
    go_wp2_with (go_at_call 8; (with_reducible refine hwk.mono ?_); rintro e w0 ⟨rfl, x0⟩)
    go_ret
    exact ⟨rfl, x0⟩
  · have q1 : decide ((600 : Int) < (text.size : Int)) = false := by simp; omega
    by_cases h2 : 300 < more.size
    · have q2 : decide ((300 : Int) < (more.size : Int)) = true := by simp; omega
      go_enter Tryd.func6, Tryd.ntmps6
      go_wp2_with (go_at_call 8; (with_reducible refine hwk.mono ?_); rintro e w0 ⟨rfl, x0⟩)
      go_ret
      exact ⟨rfl, x0⟩
    · have q2 : decide ((300 : Int) < (more.size : Int)) = false := by simp; omega
      have hpt := fun U (x : Ext [] w U) => Parse_any U text (hG.ext x)
      unfold ParseEnd at hpt
      have hlen : ¬ 1000 < (L text).length := by rw [← size_L]; omega
      obtain ⟨⟨D, q, E⟩, hp⟩ : ∃ r, parseL (L text) = r := ⟨_, rfl⟩
      rw [hp] at hpt
      by_cases hE : E = 0
      · subst hE
        clear hp
        go_enter Tryd.func6, Tryd.ntmps6
        go_wp2_with (first
          | (go_at_call 8; (with_reducible refine hwk.mono ?_); rintro e w0 ⟨rfl, x0⟩)
          | (go_at_call 27; (with_reducible refine (hpt _ x0).mono ?_); rintro e w1 ⟨v1, rfl, hT1, x1⟩; obtain ⟨a1, c1, rfl⟩ := hT1.ts.shape))
        go_ret
        exact ⟨rfl, (x0.trans x1).alloc _⟩
      · unfold parseL at hp
        rw [if_neg hlen] at hp
        obtain ⟨rfl, rfl, pre, a, r, hl, hq, hpre, ha, hrest⟩ := parse_wrong _ _ _ _ _ _ _ (Nat.le_refl _) hp hE
        rw [Nat.zero_add] at hq
        subst hq
        have hsz : text.size = pre.length + a.length + r.length := by rw [size_L, hl]; simp; omega
        have hal : 1 ≤ a.length := by
          cases a with
          | nil => exact absurd rfl ha
          | cons x y => simp
        have hdrop : L (text.extract pre.length text.size) = a ++ r := by rw [L_extract, hl, List.append_assoc, List.drop_left, List.take_of_length_le (by rw [List.length_append]; omega)]
        have hix := fun U => SIndexByte_any U (text.extract pre.length text.size) 10
        rw [hdrop, show ((10 : Int).toNat.toUInt8) = 10 from rfl, ← Lib.index_one] at hix
        have hlt : pre.length < text.size := by omega
        have q4 : decide ((pre.length : Int) < 0) = false := by simp
        have q5 : decide ((text.size : Int) ≤ (pre.length : Int)) = false := by simp; omega
        have q5n : decide (text.size ≤ pre.length) = false := by simp; omega
        have hn : (pre.length = 0 ∧ decide ((0 : Int) < (pre.length : Int)) = false ∧ decide (0 < pre.length) = false) ∨ (0 < pre.length ∧ decide ((0 : Int) < (pre.length : Int)) = true ∧ decide (0 < pre.length) = true ∧ ∀ h : pre.length - 1 < text.size, text[pre.length - 1]'h = 10) := by
          rcases hpre with rfl | hpre
          · exact .inl ⟨rfl, by simp, by simp⟩
          · have hne : pre ≠ [] := by rintro rfl; simp at hpre
            have h0 := List.length_pos_iff.2 hne
            refine .inr ⟨h0, by simp; omega, by simp; omega, fun h => ?_⟩
            rw [List.getLast?_eq_getElem?] at hpre
            have h3 := Lib.data_getElem? text (pre.length - 1) h
            have h4 : text.data.toList[pre.length - 1]? = some 10 := by
              show (L text)[pre.length - 1]? = some 10
              rw [hl, List.append_assoc, List.getElem?_append_left (by omega)]
              exact hpre
            rw [h3] at h4
            exact Option.some.inj h4
        have hq3 := hpre
        clear hpre
        rcases hrest with ⟨r1, rfl⟩ | ⟨x, rfl, r2, r3⟩
        · have hi : Lib.index (a ++ []) [10] = -1 := by
            rw [List.append_nil]
            rcases index_nl a with ⟨e, _⟩ | ⟨y, z, e, _⟩
            · exact e
            · exact absurd (by rw [e]; simp) r1
          rw [hi] at hix
          rcases hn with ⟨hn0, q3, q3n⟩ | ⟨hn0, q3, q3n, hby⟩
          · have HN := Lib.hid hn0
            clear hl hsz hdrop hp hi r1 ha hal hn0 hq3
            go_enter Tryd.func6, Tryd.ntmps6
            go_wp2_with (first
              | (go_at_call 8; (with_reducible refine hwk.mono ?_); rintro e w0 ⟨rfl, x0⟩)
              | (go_at_call 27; (with_reducible refine (hpt _ x0).mono ?_); rintro e w1 ⟨v1, rfl, hT1, x1⟩; obtain ⟨a1, c1, rfl⟩ := hT1.ts.shape)
              | (go_at_call 28; (with_reducible refine (hix _).mono ?_); rintro e w2 ⟨rfl, x2⟩))
            go_ret
            exact ⟨rfl, ((x0.trans x1).alloc _).trans x2⟩
          · clear hl hsz hdrop hp hi r1 ha hal hq3
            go_enter Tryd.func6, Tryd.ntmps6
            go_wp2_with (first
              | (go_at_call 8; (with_reducible refine hwk.mono ?_); rintro e w0 ⟨rfl, x0⟩)
              | (go_at_call 27; (with_reducible refine (hpt _ x0).mono ?_); rintro e w1 ⟨v1, rfl, hT1, x1⟩; obtain ⟨a1, c1, rfl⟩ := hT1.ts.shape)
              | (go_at_call 28; (with_reducible refine (hix _).mono ?_); rintro e w2 ⟨rfl, x2⟩))
            go_ret
            exact ⟨rfl, ((x0.trans x1).alloc _).trans x2⟩
        · rw [List.append_assoc] at hl hdrop
          have hi : Lib.index ((x ++ [10]) ++ r) [10] = x.length := by
            rw [List.append_assoc, List.singleton_append]
            rcases index_nl (x ++ 10 :: r) with ⟨_, e⟩ | ⟨y, z, e, e2, e3⟩
            · exact absurd (by simp) e
            · rw [e3]
              have := lns_hit 0 z y [] e2
              rw [← e, lns_hit 0 r x [] r2] at this
              simp at this
              have := congrArg List.length this.1
              omega
          rw [hi] at hix
          have hcut : text.extract 0 (pre.length + x.length + 1) ++ more = B (pre ++ (x ++ [10]) ++ L more) := by
            rw [← B_L (text.extract 0 (pre.length + x.length + 1) ++ more), L_append, L_extract, hl, List.drop_zero, Nat.sub_zero]
            congr 1
            rw [← List.append_assoc, List.take_left' (by simp; omega)]
          have hpm := fun U (x' : Ext [] w U) => Parse_any U (B (pre ++ (x ++ [10]) ++ L more)) (hG.ext x')
          unfold ParseEnd at hpm
          have hpv : parseL (L (B (pre ++ (x ++ [10]) ++ L more))) = ([], pre.length, 212) := by
            rw [L_B]
            unfold parseL
            rw [if_neg, r3]
            have : (L more).length = more.size := rfl
            simp only [List.length_append] at hsz ⊢
            omega
          rw [hpv] at hpm
          have hend : pre.length + x.length + 1 ≤ text.size := by simp at hsz; omega
          have hmz : (more.size : Int) ≤ 300 := by omega
          rcases hn with ⟨hn0, q3, q3n⟩ | ⟨hn0, q3, q3n, hby⟩
          · have HN := Lib.hid hn0
            have HC := Lib.hid hcut
            clear hl hsz hdrop hp hi ha hal hn0 hq3 r2 r3 hpv hcut
            go_enter Tryd.func6, Tryd.ntmps6
            go_wp2_with (first
              | (go_at_call 8; (with_reducible refine hwk.mono ?_); rintro e w0 ⟨rfl, x0⟩)
              | (go_at_call 27; (with_reducible refine (hpt _ x0).mono ?_); rintro e w1 ⟨v1, rfl, hT1, x1⟩; obtain ⟨a1, c1, rfl⟩ := hT1.ts.shape)
              | (go_at_call 28; (with_reducible refine (hix _).mono ?_); rintro e w2 ⟨rfl, x2⟩)
              | (go_at_call 27; rw [HC.out]; (with_reducible refine (hpm _ (((x0.trans x1).alloc _).trans x2)).mono ?_); rintro e w3 ⟨v3, rfl, hT3, x3⟩; obtain ⟨a3, c3, rfl⟩ := hT3.ts.shape))
            go_ret
            exact ⟨rfl, ((((x0.trans x1).alloc _).trans x2).trans x3).alloc _⟩
          · have HC := Lib.hid hcut
            clear hl hsz hdrop hp hi ha hal hq3 r2 r3 hpv hcut
            go_enter Tryd.func6, Tryd.ntmps6
            go_wp2_with (first
              | (go_at_call 8; (with_reducible refine hwk.mono ?_); rintro e w0 ⟨rfl, x0⟩)
              | (go_at_call 27; (with_reducible refine (hpt _ x0).mono ?_); rintro e w1 ⟨v1, rfl, hT1, x1⟩; obtain ⟨a1, c1, rfl⟩ := hT1.ts.shape)
              | (go_at_call 28; (with_reducible refine (hix _).mono ?_); rintro e w2 ⟨rfl, x2⟩)
              | (go_at_call 27; rw [HC.out]; (with_reducible refine (hpm _ (((x0.trans x1).alloc _).trans x2)).mono ?_); rintro e w3 ⟨v3, rfl, hT3, x3⟩; obtain ⟨a3, c3, rfl⟩ := hT3.ts.shape))
            go_ret
            exact ⟨rfl, ((((x0.trans x1).alloc _).trans x2).trans x3).alloc _⟩
end Go.Proofs.YtibmjfihfljiiaaDoor
