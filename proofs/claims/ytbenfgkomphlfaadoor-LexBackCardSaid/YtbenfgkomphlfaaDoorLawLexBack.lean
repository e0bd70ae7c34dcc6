/-
  bowspritlaw07.LexBack.
-/
import Derived.Test.YtbenfgkomphlfaaDoorLexT
import Derived.Test.YtbenfgkomphlfaaDoorCards
import Derived.Test.YtbenfgkomphlfaaDoorTie
import Derived.Test.YtbenfgkomphlfaaDoorLexR
import Derived.Test.YtbenfgkomphlfaaDoorLexS
import Derived.Test.YtbenfgkomphlfaaDoorLexU
import Derived.Test.YtbenfgkomphlfaaDoorLexV
import Derived.SevenTiedAt
import Derived.ChangeOld
namespace Go.Proofs.YtbenfgkomphlfaaDoor
open Go.RowKit
open Go.Lib hiding intOf
set_option linter.unusedVariables false

set_option maxRecDepth 100000 in
set_option maxHeartbeats 4000000 in
theorem walkBack_in (w : World) (v : Value) (ob : Nat) (l : List Tok) (s : ByteArray) (hT : Ts w v ob l) (hG : Glob w) (hl : l.length ≤ 300) (hs : s.size ≤ 5000) (hn : ∀ t ∈ l, 0 ≤ t.n) :
    Calls Tryd.prog 3 #[v, .string s] w fun e w' => e = .returned (.bool true) ∧ Ext [] w w' := by
  obtain ⟨a, cap, rfl⟩ := hT.shape
  go_enter Tryd.func3, Tryd.ntmps3
  go_wp2_with (go_at_call 6; refine (wakes_any _ hG).mono ?_; rintro e w0 ⟨rfl, h0⟩)
  go_loopw [30] (fun i wr => ∃ k : Nat, k ≤ l.length ∧ i = .int .i64 k ∧ Ext [] w wr ∧ Hid (∀ t ∈ l.take k, t.s.size ≤ 1000)) (fun i _ => l.length - (intOf i).toNat)
  case atStart => exact ⟨0, by omega, rfl, h0, by simp [Hid]⟩
  case round =>
    obtain ⟨k, hk, rfl, hX, hS⟩ := hrel
    clear h0
    by_cases hlt : k < l.length
    · obtain ⟨o, K, P, S, U, rfl, hx, c0, c1, c2, c3⟩ := (hT.ext hX (by simp)).at k hlt
      by_cases hz : S.size ≤ 1000
      · have hS2 : Hid (∀ t ∈ l.take (k + 1), t.s.size ≤ 1000) := by
          show ∀ t ∈ _, _
          intro t ht
          rw [List.take_add_one, hx, List.mem_append] at ht
          rcases ht with ht | ht
          · exact hS.out t ht
          · obtain rfl : t = _ := by simpa using ht
            exact hz
        clear hn hx
        go_wp2
        go_roundw
        case rel => exact ⟨k + 1, by omega, by go_num, hX.alloc _, hS2⟩
        case measure => simp [intOf]; omega
      · clear hn hx
        go_wp2
        go_ret
        exact ⟨rfl, hX.alloc _⟩
    · obtain rfl : k = l.length := by omega
      rw [List.take_length] at hS
      have hp := fun W (x : Ext [] w W) => Print_any W _ ob l (hT.ext x (by simp)) (hG.ext x) (by omega) (fun t ht => ⟨by have := hS.out t ht; omega, hn t ht⟩)
      have ht := fun W (x : Ext [] w W) => Tokens_any W s (hG.ext x)
      have hbad := tokens_bad (L s)
      have hml := tokens_length (L s)
      have hmr := tokens_right (L s)
      have hq := fun W v4 o4 (T4 : Ts W v4 o4 (tokensL (L s))) (x : Ext [] w W) => Print_any W v4 o4 _ T4 (hG.ext x) (by omega) (fun t ht => ⟨by have := right_small t (hmr t ht).1; omega, (hmr t ht).2⟩)
      have hall : (tokensL (L s)).all Tok.right = true := List.all_eq_true.2 fun t ht => (hmr t ht).1
      rw [hall, if_pos rfl, if_pos rfl] at hq
      have hbk := back (tokensL (L s)) hmr
      have hu := fun W (x : Ext [] w W) => Tokens_any W (B (printL (tokensL (L s)))) (hG.ext x)
      have hlong := @tokens_longer (printL (tokensL (L s)))
      have hul := tokens_length (printL (tokensL (L s)))
      have hsn := fun W va oa vb ob (h1 : Ts W va oa (tokensL (L s))) (h2 : Ts W vb ob (tokensL (printL (tokensL (L s))))) => Same_any W va vb oa ob _ _ h1 h2 (by omega) (by omega)
      unfold TokEnd at ht hu
      rw [L_B] at hu
      generalize tokensL (L s) = m at *
      generalize tokensP (L s) = tp at *
      generalize tokensE (L s) = te at *
      have hkk := back l
      have hkl := @tokens_longer (printL l)
      have hkt := tokens_length (printL l)
      have hk := fun W (x : Ext [] w W) => Tokens_any W (B (printL l)) (hG.ext x)
      have hsm := fun W vb ob2 (x : Ext [] w W) (h2 : Ts W vb ob2 (tokensL (printL l))) => Same_any W _ vb ob ob2 _ _ (hT.ext x (by simp)) h2 (by omega) (by omega)
      unfold TokEnd at hk
      rw [L_B] at hk
      have hrn : l.all Tok.right = true → ∀ t ∈ l, t.right = true ∧ 0 ≤ t.n := fun h t ht => ⟨List.all_eq_true.1 h t ht, hn t ht⟩
      clear hn hS hT hG hmr hall hml
      have head : (∃ b, (∀ W, Ext [] w W → Calls Tryd.prog 7 #[.slice a l.length cap] W fun e w' => e = .returned (.tuple #[.string b, .int .i64 171]) ∧ Ext [] W w')) ∨
          (∃ q, 600 < (B q).size ∧ (∀ W, Ext [] w W → Calls Tryd.prog 7 #[.slice a l.length cap] W fun e w' => e = .returned (.tuple #[.string (B q), .int .i64 0]) ∧ Ext [] W w') ∧
            ∀ W, Ext [] w W → Calls Tryd.prog 8 #[.string (B q)] W fun e w' => ∃ v ob, e = .returned (.tuple #[v, .int .i64 0, .int .i64 3]) ∧ Ts w' v ob [] ∧ W.heap.size ≤ ob ∧ Ext [] W w') ∨
          (∃ q m2, (B q).size ≤ 600 ∧ (∀ W, Ext [] w W → Calls Tryd.prog 7 #[.slice a l.length cap] W fun e w' => e = .returned (.tuple #[.string (B q), .int .i64 0]) ∧ Ext [] W w') ∧
            (∀ W, Ext [] w W → Calls Tryd.prog 8 #[.string (B q)] W fun e w' => ∃ v ob, e = .returned (.tuple #[v, .int .i64 0, .int .i64 0]) ∧ Ts w' v ob m2 ∧ W.heap.size ≤ ob ∧ Ext [] W w') ∧
            ∀ W vb ob2, Ext [] w W → Ts W vb ob2 m2 → Calls Tryd.prog 9 #[.slice a l.length cap, vb] W fun e w' => e = .returned (.bool true) ∧ Ext [] W w') := by
        cases hr : l.all Tok.right
        · rw [hr] at hp
          exact .inl ⟨_, hp⟩
        · rw [hr] at hp
          by_cases hlq : (printL l).length ≤ 600
          · obtain ⟨b1, b2, b3⟩ := hkk (hrn hr) hlq
            rw [b1, b2] at hk
            rw [b3] at hsm
            exact .inr (.inr ⟨printL l, tokensL (printL l), hlq, hp, hk, hsm⟩)
          · obtain ⟨b1, b2, b3⟩ := hkl (by omega)
            rw [b1, b2, b3] at hk
            exact .inr (.inl ⟨printL l, by show 600 < (printL l).length; omega, hp, hk⟩)
      clear hp hkk hkl hkt hk hsm hrn
      have tail : (te ≠ 0 ∧ m = []) ∨ (te = 0 ∧ ∃ q, 600 < (B q).size ∧ (∀ W v4 o4, Ts W v4 o4 m → Ext [] w W → Calls Tryd.prog 7 #[v4] W fun e w' => e = .returned (.tuple #[.string (B q), .int .i64 0]) ∧ Ext [] W w') ∧
            ∀ W, Ext [] w W → Calls Tryd.prog 8 #[.string (B q)] W fun e w' => ∃ v ob, e = .returned (.tuple #[v, .int .i64 0, .int .i64 3]) ∧ Ts w' v ob [] ∧ W.heap.size ≤ ob ∧ Ext [] W w') ∨
          (te = 0 ∧ ∃ q m2, (B q).size ≤ 600 ∧ (∀ W v4 o4, Ts W v4 o4 m → Ext [] w W → Calls Tryd.prog 7 #[v4] W fun e w' => e = .returned (.tuple #[.string (B q), .int .i64 0]) ∧ Ext [] W w') ∧
            (∀ W, Ext [] w W → Calls Tryd.prog 8 #[.string (B q)] W fun e w' => ∃ v ob, e = .returned (.tuple #[v, .int .i64 0, .int .i64 0]) ∧ Ts w' v ob m2 ∧ W.heap.size ≤ ob ∧ Ext [] W w') ∧
            ∀ W va oa vb ob, Ts W va oa m → Ts W vb ob m2 → Calls Tryd.prog 9 #[va, vb] W fun e w' => e = .returned (.bool true) ∧ Ext [] W w') := by
        by_cases hte : te = 0
        · by_cases hlq : (printL m).length ≤ 600
          · obtain ⟨b1, b2, b3⟩ := hbk hlq
            rw [b1, b2] at hu
            rw [b3] at hsn
            exact .inr (.inr ⟨hte, printL m, _, hlq, hq, hu, hsn⟩)
          · obtain ⟨b1, b2, b3⟩ := hlong (by omega)
            rw [b1, b2, b3] at hu
            exact .inr (.inl ⟨hte, printL m, by show 600 < (printL m).length; omega, hq, hu⟩)
        · exact .inl ⟨hte, hbad hte⟩
      clear hbad hq hbk hu hlong hul hsn
      rcases head with ⟨b, hp⟩ | ⟨q1, hq1, hp, hk⟩ | ⟨q1, m1, hq1, hp, hk, hsm⟩
      · rcases tail with ⟨hte, rfl⟩ | ⟨rfl, q, hq2, hq, hu⟩ | ⟨rfl, q, m2, hq2, hq, hu, hsn⟩
        · have hte' : (te != 0) = true := by simpa using hte
          clear hte
          go_wp2_with (first | (go_at_call 7; (with_reducible refine (hp _ (by (repeat' (first | exact Ext.refl _ _ | exact hX | (with_reducible refine Ext.trans ?_ x7) | (with_reducible refine Ext.trans ?_ x6) | (with_reducible refine Ext.trans ?_ x5) | (with_reducible refine Ext.trans ?_ x4) | (with_reducible refine Ext.trans ?_ x3) | (with_reducible refine Ext.trans ?_ x2) | (with_reducible refine Ext.trans ?_ x1) | (with_reducible refine Ext.alloc ?_ _) | (with_reducible refine Ext.drew ?_))))).mono ?_); rintro e w1 ⟨rfl, x1⟩) | (go_at_call 8; (with_reducible refine (ht _ (by (repeat' (first | exact Ext.refl _ _ | exact hX | (with_reducible refine Ext.trans ?_ x7) | (with_reducible refine Ext.trans ?_ x6) | (with_reducible refine Ext.trans ?_ x5) | (with_reducible refine Ext.trans ?_ x4) | (with_reducible refine Ext.trans ?_ x3) | (with_reducible refine Ext.trans ?_ x2) | (with_reducible refine Ext.trans ?_ x1) | (with_reducible refine Ext.alloc ?_ _) | (with_reducible refine Ext.drew ?_))))).mono ?_); rintro e w4 ⟨v4, o4, rfl, T4, _, x4⟩; obtain ⟨a4, c4, rfl⟩ := T4.shape))
          go_ret
          exact ⟨rfl, by (repeat' (first | exact Ext.refl _ _ | exact hX | (with_reducible refine Ext.trans ?_ x7) | (with_reducible refine Ext.trans ?_ x6) | (with_reducible refine Ext.trans ?_ x5) | (with_reducible refine Ext.trans ?_ x4) | (with_reducible refine Ext.trans ?_ x3) | (with_reducible refine Ext.trans ?_ x2) | (with_reducible refine Ext.trans ?_ x1) | (with_reducible refine Ext.alloc ?_ _) | (with_reducible refine Ext.drew ?_)))⟩
        · go_wp2_with (first | (go_at_call 7; (with_reducible refine (hp _ (by (repeat' (first | exact Ext.refl _ _ | exact hX | (with_reducible refine Ext.trans ?_ x7) | (with_reducible refine Ext.trans ?_ x6) | (with_reducible refine Ext.trans ?_ x5) | (with_reducible refine Ext.trans ?_ x4) | (with_reducible refine Ext.trans ?_ x3) | (with_reducible refine Ext.trans ?_ x2) | (with_reducible refine Ext.trans ?_ x1) | (with_reducible refine Ext.alloc ?_ _) | (with_reducible refine Ext.drew ?_))))).mono ?_); rintro e w1 ⟨rfl, x1⟩) | (go_at_call 8; (with_reducible refine (ht _ (by (repeat' (first | exact Ext.refl _ _ | exact hX | (with_reducible refine Ext.trans ?_ x7) | (with_reducible refine Ext.trans ?_ x6) | (with_reducible refine Ext.trans ?_ x5) | (with_reducible refine Ext.trans ?_ x4) | (with_reducible refine Ext.trans ?_ x3) | (with_reducible refine Ext.trans ?_ x2) | (with_reducible refine Ext.trans ?_ x1) | (with_reducible refine Ext.alloc ?_ _) | (with_reducible refine Ext.drew ?_))))).mono ?_); rintro e w4 ⟨v4, o4, rfl, T4, _, x4⟩; obtain ⟨a4, c4, rfl⟩ := T4.shape) | (go_at_call 7; (with_reducible refine (hq _ _ _ T4 (by (repeat' (first | exact Ext.refl _ _ | exact hX | (with_reducible refine Ext.trans ?_ x7) | (with_reducible refine Ext.trans ?_ x6) | (with_reducible refine Ext.trans ?_ x5) | (with_reducible refine Ext.trans ?_ x4) | (with_reducible refine Ext.trans ?_ x3) | (with_reducible refine Ext.trans ?_ x2) | (with_reducible refine Ext.trans ?_ x1) | (with_reducible refine Ext.alloc ?_ _) | (with_reducible refine Ext.drew ?_))))).mono ?_); rintro e w5 ⟨rfl, x5⟩) | (go_at_call 8; (with_reducible refine (hu _ (by (repeat' (first | exact Ext.refl _ _ | exact hX | (with_reducible refine Ext.trans ?_ x7) | (with_reducible refine Ext.trans ?_ x6) | (with_reducible refine Ext.trans ?_ x5) | (with_reducible refine Ext.trans ?_ x4) | (with_reducible refine Ext.trans ?_ x3) | (with_reducible refine Ext.trans ?_ x2) | (with_reducible refine Ext.trans ?_ x1) | (with_reducible refine Ext.alloc ?_ _) | (with_reducible refine Ext.drew ?_))))).mono ?_); rintro e w6 ⟨v6, o6, rfl, T6, _, x6⟩; obtain ⟨a6, c6, rfl⟩ := T6.shape))
          go_ret
          exact ⟨rfl, by (repeat' (first | exact Ext.refl _ _ | exact hX | (with_reducible refine Ext.trans ?_ x7) | (with_reducible refine Ext.trans ?_ x6) | (with_reducible refine Ext.trans ?_ x5) | (with_reducible refine Ext.trans ?_ x4) | (with_reducible refine Ext.trans ?_ x3) | (with_reducible refine Ext.trans ?_ x2) | (with_reducible refine Ext.trans ?_ x1) | (with_reducible refine Ext.alloc ?_ _) | (with_reducible refine Ext.drew ?_)))⟩
        · go_wp2_with (first | (go_at_call 7; (with_reducible refine (hp _ (by (repeat' (first | exact Ext.refl _ _ | exact hX | (with_reducible refine Ext.trans ?_ x7) | (with_reducible refine Ext.trans ?_ x6) | (with_reducible refine Ext.trans ?_ x5) | (with_reducible refine Ext.trans ?_ x4) | (with_reducible refine Ext.trans ?_ x3) | (with_reducible refine Ext.trans ?_ x2) | (with_reducible refine Ext.trans ?_ x1) | (with_reducible refine Ext.alloc ?_ _) | (with_reducible refine Ext.drew ?_))))).mono ?_); rintro e w1 ⟨rfl, x1⟩) | (go_at_call 8; (with_reducible refine (ht _ (by (repeat' (first | exact Ext.refl _ _ | exact hX | (with_reducible refine Ext.trans ?_ x7) | (with_reducible refine Ext.trans ?_ x6) | (with_reducible refine Ext.trans ?_ x5) | (with_reducible refine Ext.trans ?_ x4) | (with_reducible refine Ext.trans ?_ x3) | (with_reducible refine Ext.trans ?_ x2) | (with_reducible refine Ext.trans ?_ x1) | (with_reducible refine Ext.alloc ?_ _) | (with_reducible refine Ext.drew ?_))))).mono ?_); rintro e w4 ⟨v4, o4, rfl, T4, _, x4⟩; obtain ⟨a4, c4, rfl⟩ := T4.shape) | (go_at_call 7; (with_reducible refine (hq _ _ _ T4 (by (repeat' (first | exact Ext.refl _ _ | exact hX | (with_reducible refine Ext.trans ?_ x7) | (with_reducible refine Ext.trans ?_ x6) | (with_reducible refine Ext.trans ?_ x5) | (with_reducible refine Ext.trans ?_ x4) | (with_reducible refine Ext.trans ?_ x3) | (with_reducible refine Ext.trans ?_ x2) | (with_reducible refine Ext.trans ?_ x1) | (with_reducible refine Ext.alloc ?_ _) | (with_reducible refine Ext.drew ?_))))).mono ?_); rintro e w5 ⟨rfl, x5⟩) | (go_at_call 8; (with_reducible refine (hu _ (by (repeat' (first | exact Ext.refl _ _ | exact hX | (with_reducible refine Ext.trans ?_ x7) | (with_reducible refine Ext.trans ?_ x6) | (with_reducible refine Ext.trans ?_ x5) | (with_reducible refine Ext.trans ?_ x4) | (with_reducible refine Ext.trans ?_ x3) | (with_reducible refine Ext.trans ?_ x2) | (with_reducible refine Ext.trans ?_ x1) | (with_reducible refine Ext.alloc ?_ _) | (with_reducible refine Ext.drew ?_))))).mono ?_); rintro e w6 ⟨v6, o6, rfl, T6, _, x6⟩; obtain ⟨a6, c6, rfl⟩ := T6.shape) | (go_at_call 9; (with_reducible refine (hsn _ _ _ _ _ (T4.ext (x5.trans x6) (by simp)) T6).mono ?_); rintro e w7 ⟨rfl, x7⟩))
          go_ret
          exact ⟨rfl, by (repeat' (first | exact Ext.refl _ _ | exact hX | (with_reducible refine Ext.trans ?_ x7) | (with_reducible refine Ext.trans ?_ x6) | (with_reducible refine Ext.trans ?_ x5) | (with_reducible refine Ext.trans ?_ x4) | (with_reducible refine Ext.trans ?_ x3) | (with_reducible refine Ext.trans ?_ x2) | (with_reducible refine Ext.trans ?_ x1) | (with_reducible refine Ext.alloc ?_ _) | (with_reducible refine Ext.drew ?_)))⟩
      · go_wp2_with (first | (go_at_call 7; (with_reducible refine (hp _ (by (repeat' (first | exact Ext.refl _ _ | exact hX | (with_reducible refine Ext.trans ?_ x7) | (with_reducible refine Ext.trans ?_ x6) | (with_reducible refine Ext.trans ?_ x5) | (with_reducible refine Ext.trans ?_ x4) | (with_reducible refine Ext.trans ?_ x3) | (with_reducible refine Ext.trans ?_ x2) | (with_reducible refine Ext.trans ?_ x1) | (with_reducible refine Ext.alloc ?_ _) | (with_reducible refine Ext.drew ?_))))).mono ?_); rintro e w1 ⟨rfl, x1⟩) | (go_at_call 8; (with_reducible refine (hk _ (by (repeat' (first | exact Ext.refl _ _ | exact hX | (with_reducible refine Ext.trans ?_ x7) | (with_reducible refine Ext.trans ?_ x6) | (with_reducible refine Ext.trans ?_ x5) | (with_reducible refine Ext.trans ?_ x4) | (with_reducible refine Ext.trans ?_ x3) | (with_reducible refine Ext.trans ?_ x2) | (with_reducible refine Ext.trans ?_ x1) | (with_reducible refine Ext.alloc ?_ _) | (with_reducible refine Ext.drew ?_))))).mono ?_); rintro e w2 ⟨v2, o2, rfl, T2, _, x2⟩; obtain ⟨a2, c2, rfl⟩ := T2.shape))
        go_ret
        exact ⟨rfl, by (repeat' (first | exact Ext.refl _ _ | exact hX | (with_reducible refine Ext.trans ?_ x7) | (with_reducible refine Ext.trans ?_ x6) | (with_reducible refine Ext.trans ?_ x5) | (with_reducible refine Ext.trans ?_ x4) | (with_reducible refine Ext.trans ?_ x3) | (with_reducible refine Ext.trans ?_ x2) | (with_reducible refine Ext.trans ?_ x1) | (with_reducible refine Ext.alloc ?_ _) | (with_reducible refine Ext.drew ?_)))⟩
      · rcases tail with ⟨hte, rfl⟩ | ⟨rfl, q, hq2, hq, hu⟩ | ⟨rfl, q, m2, hq2, hq, hu, hsn⟩
        · have hte' : (te != 0) = true := by simpa using hte
          clear hte
          go_wp2_with (first | (go_at_call 7; (with_reducible refine (hp _ (by (repeat' (first | exact Ext.refl _ _ | exact hX | (with_reducible refine Ext.trans ?_ x7) | (with_reducible refine Ext.trans ?_ x6) | (with_reducible refine Ext.trans ?_ x5) | (with_reducible refine Ext.trans ?_ x4) | (with_reducible refine Ext.trans ?_ x3) | (with_reducible refine Ext.trans ?_ x2) | (with_reducible refine Ext.trans ?_ x1) | (with_reducible refine Ext.alloc ?_ _) | (with_reducible refine Ext.drew ?_))))).mono ?_); rintro e w1 ⟨rfl, x1⟩) | (go_at_call 8; (with_reducible refine (hk _ (by (repeat' (first | exact Ext.refl _ _ | exact hX | (with_reducible refine Ext.trans ?_ x7) | (with_reducible refine Ext.trans ?_ x6) | (with_reducible refine Ext.trans ?_ x5) | (with_reducible refine Ext.trans ?_ x4) | (with_reducible refine Ext.trans ?_ x3) | (with_reducible refine Ext.trans ?_ x2) | (with_reducible refine Ext.trans ?_ x1) | (with_reducible refine Ext.alloc ?_ _) | (with_reducible refine Ext.drew ?_))))).mono ?_); rintro e w2 ⟨v2, o2, rfl, T2, _, x2⟩; obtain ⟨a2, c2, rfl⟩ := T2.shape) | (go_at_call 9; (with_reducible refine (hsm _ _ _ (by (repeat' (first | exact Ext.refl _ _ | exact hX | (with_reducible refine Ext.trans ?_ x7) | (with_reducible refine Ext.trans ?_ x6) | (with_reducible refine Ext.trans ?_ x5) | (with_reducible refine Ext.trans ?_ x4) | (with_reducible refine Ext.trans ?_ x3) | (with_reducible refine Ext.trans ?_ x2) | (with_reducible refine Ext.trans ?_ x1) | (with_reducible refine Ext.alloc ?_ _) | (with_reducible refine Ext.drew ?_)))) T2).mono ?_); rintro e w3 ⟨rfl, x3⟩) | (go_at_call 8; (with_reducible refine (ht _ (by (repeat' (first | exact Ext.refl _ _ | exact hX | (with_reducible refine Ext.trans ?_ x7) | (with_reducible refine Ext.trans ?_ x6) | (with_reducible refine Ext.trans ?_ x5) | (with_reducible refine Ext.trans ?_ x4) | (with_reducible refine Ext.trans ?_ x3) | (with_reducible refine Ext.trans ?_ x2) | (with_reducible refine Ext.trans ?_ x1) | (with_reducible refine Ext.alloc ?_ _) | (with_reducible refine Ext.drew ?_))))).mono ?_); rintro e w4 ⟨v4, o4, rfl, T4, _, x4⟩; obtain ⟨a4, c4, rfl⟩ := T4.shape))
          go_ret
          exact ⟨rfl, by (repeat' (first | exact Ext.refl _ _ | exact hX | (with_reducible refine Ext.trans ?_ x7) | (with_reducible refine Ext.trans ?_ x6) | (with_reducible refine Ext.trans ?_ x5) | (with_reducible refine Ext.trans ?_ x4) | (with_reducible refine Ext.trans ?_ x3) | (with_reducible refine Ext.trans ?_ x2) | (with_reducible refine Ext.trans ?_ x1) | (with_reducible refine Ext.alloc ?_ _) | (with_reducible refine Ext.drew ?_)))⟩
        · go_wp2_with (first | (go_at_call 7; (with_reducible refine (hp _ (by (repeat' (first | exact Ext.refl _ _ | exact hX | (with_reducible refine Ext.trans ?_ x7) | (with_reducible refine Ext.trans ?_ x6) | (with_reducible refine Ext.trans ?_ x5) | (with_reducible refine Ext.trans ?_ x4) | (with_reducible refine Ext.trans ?_ x3) | (with_reducible refine Ext.trans ?_ x2) | (with_reducible refine Ext.trans ?_ x1) | (with_reducible refine Ext.alloc ?_ _) | (with_reducible refine Ext.drew ?_))))).mono ?_); rintro e w1 ⟨rfl, x1⟩) | (go_at_call 8; (with_reducible refine (hk _ (by (repeat' (first | exact Ext.refl _ _ | exact hX | (with_reducible refine Ext.trans ?_ x7) | (with_reducible refine Ext.trans ?_ x6) | (with_reducible refine Ext.trans ?_ x5) | (with_reducible refine Ext.trans ?_ x4) | (with_reducible refine Ext.trans ?_ x3) | (with_reducible refine Ext.trans ?_ x2) | (with_reducible refine Ext.trans ?_ x1) | (with_reducible refine Ext.alloc ?_ _) | (with_reducible refine Ext.drew ?_))))).mono ?_); rintro e w2 ⟨v2, o2, rfl, T2, _, x2⟩; obtain ⟨a2, c2, rfl⟩ := T2.shape) | (go_at_call 9; (with_reducible refine (hsm _ _ _ (by (repeat' (first | exact Ext.refl _ _ | exact hX | (with_reducible refine Ext.trans ?_ x7) | (with_reducible refine Ext.trans ?_ x6) | (with_reducible refine Ext.trans ?_ x5) | (with_reducible refine Ext.trans ?_ x4) | (with_reducible refine Ext.trans ?_ x3) | (with_reducible refine Ext.trans ?_ x2) | (with_reducible refine Ext.trans ?_ x1) | (with_reducible refine Ext.alloc ?_ _) | (with_reducible refine Ext.drew ?_)))) T2).mono ?_); rintro e w3 ⟨rfl, x3⟩) | (go_at_call 8; (with_reducible refine (ht _ (by (repeat' (first | exact Ext.refl _ _ | exact hX | (with_reducible refine Ext.trans ?_ x7) | (with_reducible refine Ext.trans ?_ x6) | (with_reducible refine Ext.trans ?_ x5) | (with_reducible refine Ext.trans ?_ x4) | (with_reducible refine Ext.trans ?_ x3) | (with_reducible refine Ext.trans ?_ x2) | (with_reducible refine Ext.trans ?_ x1) | (with_reducible refine Ext.alloc ?_ _) | (with_reducible refine Ext.drew ?_))))).mono ?_); rintro e w4 ⟨v4, o4, rfl, T4, _, x4⟩; obtain ⟨a4, c4, rfl⟩ := T4.shape) | (go_at_call 7; (with_reducible refine (hq _ _ _ T4 (by (repeat' (first | exact Ext.refl _ _ | exact hX | (with_reducible refine Ext.trans ?_ x7) | (with_reducible refine Ext.trans ?_ x6) | (with_reducible refine Ext.trans ?_ x5) | (with_reducible refine Ext.trans ?_ x4) | (with_reducible refine Ext.trans ?_ x3) | (with_reducible refine Ext.trans ?_ x2) | (with_reducible refine Ext.trans ?_ x1) | (with_reducible refine Ext.alloc ?_ _) | (with_reducible refine Ext.drew ?_))))).mono ?_); rintro e w5 ⟨rfl, x5⟩) | (go_at_call 8; (with_reducible refine (hu _ (by (repeat' (first | exact Ext.refl _ _ | exact hX | (with_reducible refine Ext.trans ?_ x7) | (with_reducible refine Ext.trans ?_ x6) | (with_reducible refine Ext.trans ?_ x5) | (with_reducible refine Ext.trans ?_ x4) | (with_reducible refine Ext.trans ?_ x3) | (with_reducible refine Ext.trans ?_ x2) | (with_reducible refine Ext.trans ?_ x1) | (with_reducible refine Ext.alloc ?_ _) | (with_reducible refine Ext.drew ?_))))).mono ?_); rintro e w6 ⟨v6, o6, rfl, T6, _, x6⟩; obtain ⟨a6, c6, rfl⟩ := T6.shape))
          go_ret
          exact ⟨rfl, by (repeat' (first | exact Ext.refl _ _ | exact hX | (with_reducible refine Ext.trans ?_ x7) | (with_reducible refine Ext.trans ?_ x6) | (with_reducible refine Ext.trans ?_ x5) | (with_reducible refine Ext.trans ?_ x4) | (with_reducible refine Ext.trans ?_ x3) | (with_reducible refine Ext.trans ?_ x2) | (with_reducible refine Ext.trans ?_ x1) | (with_reducible refine Ext.alloc ?_ _) | (with_reducible refine Ext.drew ?_)))⟩
        · go_wp2_with (first | (go_at_call 7; (with_reducible refine (hp _ (by (repeat' (first | exact Ext.refl _ _ | exact hX | (with_reducible refine Ext.trans ?_ x7) | (with_reducible refine Ext.trans ?_ x6) | (with_reducible refine Ext.trans ?_ x5) | (with_reducible refine Ext.trans ?_ x4) | (with_reducible refine Ext.trans ?_ x3) | (with_reducible refine Ext.trans ?_ x2) | (with_reducible refine Ext.trans ?_ x1) | (with_reducible refine Ext.alloc ?_ _) | (with_reducible refine Ext.drew ?_))))).mono ?_); rintro e w1 ⟨rfl, x1⟩) | (go_at_call 8; (with_reducible refine (hk _ (by (repeat' (first | exact Ext.refl _ _ | exact hX | (with_reducible refine Ext.trans ?_ x7) | (with_reducible refine Ext.trans ?_ x6) | (with_reducible refine Ext.trans ?_ x5) | (with_reducible refine Ext.trans ?_ x4) | (with_reducible refine Ext.trans ?_ x3) | (with_reducible refine Ext.trans ?_ x2) | (with_reducible refine Ext.trans ?_ x1) | (with_reducible refine Ext.alloc ?_ _) | (with_reducible refine Ext.drew ?_))))).mono ?_); rintro e w2 ⟨v2, o2, rfl, T2, _, x2⟩; obtain ⟨a2, c2, rfl⟩ := T2.shape) | (go_at_call 9; (with_reducible refine (hsm _ _ _ (by (repeat' (first | exact Ext.refl _ _ | exact hX | (with_reducible refine Ext.trans ?_ x7) | (with_reducible refine Ext.trans ?_ x6) | (with_reducible refine Ext.trans ?_ x5) | (with_reducible refine Ext.trans ?_ x4) | (with_reducible refine Ext.trans ?_ x3) | (with_reducible refine Ext.trans ?_ x2) | (with_reducible refine Ext.trans ?_ x1) | (with_reducible refine Ext.alloc ?_ _) | (with_reducible refine Ext.drew ?_)))) T2).mono ?_); rintro e w3 ⟨rfl, x3⟩) | (go_at_call 8; (with_reducible refine (ht _ (by (repeat' (first | exact Ext.refl _ _ | exact hX | (with_reducible refine Ext.trans ?_ x7) | (with_reducible refine Ext.trans ?_ x6) | (with_reducible refine Ext.trans ?_ x5) | (with_reducible refine Ext.trans ?_ x4) | (with_reducible refine Ext.trans ?_ x3) | (with_reducible refine Ext.trans ?_ x2) | (with_reducible refine Ext.trans ?_ x1) | (with_reducible refine Ext.alloc ?_ _) | (with_reducible refine Ext.drew ?_))))).mono ?_); rintro e w4 ⟨v4, o4, rfl, T4, _, x4⟩; obtain ⟨a4, c4, rfl⟩ := T4.shape) | (go_at_call 7; (with_reducible refine (hq _ _ _ T4 (by (repeat' (first | exact Ext.refl _ _ | exact hX | (with_reducible refine Ext.trans ?_ x7) | (with_reducible refine Ext.trans ?_ x6) | (with_reducible refine Ext.trans ?_ x5) | (with_reducible refine Ext.trans ?_ x4) | (with_reducible refine Ext.trans ?_ x3) | (with_reducible refine Ext.trans ?_ x2) | (with_reducible refine Ext.trans ?_ x1) | (with_reducible refine Ext.alloc ?_ _) | (with_reducible refine Ext.drew ?_))))).mono ?_); rintro e w5 ⟨rfl, x5⟩) | (go_at_call 8; (with_reducible refine (hu _ (by (repeat' (first | exact Ext.refl _ _ | exact hX | (with_reducible refine Ext.trans ?_ x7) | (with_reducible refine Ext.trans ?_ x6) | (with_reducible refine Ext.trans ?_ x5) | (with_reducible refine Ext.trans ?_ x4) | (with_reducible refine Ext.trans ?_ x3) | (with_reducible refine Ext.trans ?_ x2) | (with_reducible refine Ext.trans ?_ x1) | (with_reducible refine Ext.alloc ?_ _) | (with_reducible refine Ext.drew ?_))))).mono ?_); rintro e w6 ⟨v6, o6, rfl, T6, _, x6⟩; obtain ⟨a6, c6, rfl⟩ := T6.shape) | (go_at_call 9; (with_reducible refine (hsn _ _ _ _ _ (T4.ext (x5.trans x6) (by simp)) T6).mono ?_); rintro e w7 ⟨rfl, x7⟩))
          go_ret
          exact ⟨rfl, by (repeat' (first | exact Ext.refl _ _ | exact hX | (with_reducible refine Ext.trans ?_ x7) | (with_reducible refine Ext.trans ?_ x6) | (with_reducible refine Ext.trans ?_ x5) | (with_reducible refine Ext.trans ?_ x4) | (with_reducible refine Ext.trans ?_ x3) | (with_reducible refine Ext.trans ?_ x2) | (with_reducible refine Ext.trans ?_ x1) | (with_reducible refine Ext.alloc ?_ _) | (with_reducible refine Ext.drew ?_)))⟩
theorem walkBack_out (w : World) (v : Value) (ob : Nat) (l : List Tok) (s : ByteArray) (hT : Ts w v ob l) (hG : Glob w) (h : 300 < (l.length : Int) ∨ 5000 < (s.size : Int)) :
    Calls Tryd.prog 3 #[v, .string s] w fun e w' => e = .returned (.bool true) ∧ Ext [] w w' := by
  obtain ⟨a, cap, rfl⟩ := hT.shape
  by_cases h1 : 300 < (l.length : Int)
  · clear h
    go_enter Tryd.func3, Tryd.ntmps3
    go_wp2_with (go_at_call 6; refine (wakes_any _ hG).mono ?_; rintro e w0 ⟨rfl, h0⟩)
    go_ret
    exact ⟨rfl, h0⟩
  · have h2 : 5000 < (s.size : Int) := by omega
    clear h
    go_enter Tryd.func3, Tryd.ntmps3
    go_wp2_with (go_at_call 6; refine (wakes_any _ hG).mono ?_; rintro e w0 ⟨rfl, h0⟩)
    go_ret
    exact ⟨rfl, h0⟩
set_option maxRecDepth 100000 in
theorem walk_LexBack {H : Type} {enc : TypeId × Value → H} (W : World) (hG : Glob W) (v0 : Value) (d0 : DataW H) (p0 : List MemPlace) (base0 : Nat) (h0 : DataW.Trod enc Tryd.prog W 0 (fun _ => true) true 22 v0 d0 p0) (k0 : Value.okWide Tryd.prog W .any base0 22 v0) (v1 : Value) (d1 : DataW H) (p1 : List MemPlace) (base1 : Nat) (h1 : DataW.Trod enc Tryd.prog W 0 (fun _ => true) true 9 v1 d1 p1) (k1 : Value.okWide Tryd.prog W .any base1 9 v1) :
    Calls Tryd.prog 3 #[v0, v1] W fun e w' => e = .returned (.bool true) ∧ Below W.heap.size W w' := by
  obtain ⟨ob, l, hT, hn⟩ := read_toks h0 k0
  obtain ⟨s, rfl⟩ := WideShapes.okWide_string Tryd.underlying9 k1
  by_cases h : l.length ≤ 300 ∧ s.size ≤ 5000
  · exact (walkBack_in W v0 ob l s hT hG h.1 h.2 (fun t ht => (hn t ht).1)).mono fun e w' r => ⟨r.1, r.2.below⟩
  · exact (walkBack_out W v0 ob l s hT hG (by omega)).mono fun e w' r => ⟨r.1, r.2.below⟩
namespace lexBack
open Go.ChangeShapes Go.WideShapes Go.ChangeAt Go.RowKit
set_option maxRecDepth 100000 in
theorem lifted (os : Os) (started : os.Started) (H : Type) (enc : TypeId × Value → H) :
    ReturnsInHanded {} Tryd.checked os 3 .any (fun w args => (Rows.lexBackSpec.pre enc Tryd.prog Tryd.f3 Rows.lexBackRow.domain false w args ∧ laidMetH Tryd.prog laidL w) ∧ sizedMet enc Tryd.prog Tryd.f3 (OpenSpec.ofChange Rows.lexBackSpec) false w args) (Rows.lexBackSpec.post enc Tryd.prog Tryd.f3 false true false false) := by
  refine returns_of_both (C := Tryd.checked) (X := fun w _ => laidMetH Tryd.prog laidL w) (fun _ _ _ hh h => h.of_heap hh) ownK started (by kernel_rfl) Tryd.func3
    (ChangeSpec.witness_shaped (enc := enc) (C := Tryd.checked) (os := os) (X := fun w _ => laidMetH Tryd.prog laidL w) false (World.laidAll Tryd.prog os laidL) #[.slice none 0 0, .string (ByteArray.mk #[])] 8 (World.laidAll_os _ _ _)
      (World.shaped_of_ZipB (by kernel_rfl) (by kernel_rfl)) (by kernel_rfl) (by kernel_rfl) (by kernel_rfl)
      (by rw [MakeChecks.laidMetH_plain _ _ _ (by kernel_rfl)]; exact laidMet_laidAll _ (by kernel_rfl) (by kernel_rfl))) ?_
  intro W base args ds gs before hval0 hW hL hS
  have hG := glob_of hL hS
  have hval : ∀ (j : Nat) t v, Tryd.f3.params[j]? = some t → args[j]? = some v → Value.okWide Tryd.prog W .any base t v := hval0
  have hW' := hW
  obtain ⟨p, q, hA0, hV, rfl, hfz, hnd⟩ := hW
  have hA : DataW.TrodAll enc Tryd.prog W 0 (fun _ => true) true Tryd.f3.params.toList args.toList ds p := hA0
  rw [Tryd.params3] at hA hval
  obtain ⟨v0, vs0, d0, ds0, p0, q0, hargs, rfl, rfl, h0, r0⟩ := trodAll_cons hA
  obtain ⟨v1, vs1, d1, ds1, p1, q1, rfl, rfl, rfl, h1, r1⟩ := trodAll_cons r0
  obtain ⟨rfl, rfl, rfl⟩ := trodAll_nil r1
  obtain rfl : args = #[v0, v1] := by cases args; simp_all
  obtain ⟨rfl, rfl⟩ := trodVars_none hV
  have lt0 : ∀ x ∈ p0, x.block < W.heap.size := by obtain ⟨m, hm⟩ := h0; exact DataW.trod_lt m _ _ _ hm
  have lt1 : ∀ x ∈ p1, x.block < W.heap.size := by obtain ⟨m, hm⟩ := h1; exact DataW.trod_lt m _ _ _ hm
  have k0 := hval 0 22 v0 rfl rfl
  have k1 := hval 1 9 v1 rfl rfl
  clear hA0 hval0
  refine (walk_LexBack W hG v0 d0 p0 base h0 k0 v1 d1 p1 base h1 k1).mono fun e W' ⟨he, bel⟩ => ?_
  subst he
  exact ⟨_, rfl, _, _, _, [], _, [], hW', trodAll_mk1 (shut_bool Tryd.underlying4 _), (trodAll_cons_mk (Below.trod laidOut (by kernel_rfl) (of_decide_eq_true (by kernel_rfl)) h0 bel lt0) (trodAll_cons_mk (Below.trod laidOut (by kernel_rfl) (of_decide_eq_true (by kernel_rfl)) h1 bel lt1) trodAll_mk0)), rfl, bel.frame _, fun h => by cases h⟩
theorem over : Rows.lexBackRow.holds Tryd.pinned (OpenSpec.ofChange Rows.lexBackSpec) :=
  OpenClaim.holds_of_wide 3 Tryd.f3 rfl rfl rfl rfl rfl rfl rfl ⟨rfl, rfl, rfl, rfl, rfl⟩ rfl rfl rfl rfl rfl (by kernel_rfl) Tryd.func3 (by kernel_rfl)
    (of_decide_eq_true (by kernel_rfl)) (by unfold Func.isWrapper; first | (rw [if_pos (by decide +kernel)]; kernel_rfl) | (rw [if_neg (by decide +kernel)]; exact ⟨rfl, rfl⟩))
    (fun os started H enc _ => lifted os started H enc)
theorem proved : Rows.LexBackCardSaid :=
  Claim7.holds_tied_plain_at .later [] [.data, .data, .data, .data, .sentinel, .sentinel, .data, .data, .pinned, .pinned] true (true, "584b3e1d95ef90a271cf2c3353ef51f6ea030b8fa1f2e122040b8c5164a880ba") true over (fun _ h => by cases h) (by kernel_rfl) (fun _ h => by cases h) lexBack_row_tie rfl ⟨rfl, rfl⟩ (by kernel_rfl) rfl
    (fun f fn hf hfn => by
      obtain rfl : f = 3 := Option.some.inj ((show Tryd.prog.funcNamed "bowsprit/bowspritlaw07.LexBack" = some 3 by kernel_rfl).symm.trans hf) |>.symm
      obtain rfl : fn = Tryd.f3 := (Option.some.inj (Tryd.func3.symm.trans hfn)).symm
      exact ⟨by kernel_rfl, fun j t ht => by
        rw [Tryd.params3] at ht
        have hm : t ∈ [22, 9] := by simpa using Array.mem_of_getElem? ht
        have hall : ([22, 9].all fun u => !Tryd.prog.wantsStandIn u) = true := by kernel_rfl
        exact (show Tryd.prog.wantsStandIn t = false by simpa using List.all_eq_true.1 hall t hm)⟩)
    (by kernel_rfl)
#print axioms proved
end lexBack
end Go.Proofs.YtbenfgkomphlfaaDoor
