/-
  Same.
-/
import Derived.Test.YtbenfgkomphlfaaGreatDoorLexF
namespace Go.Proofs.YtbenfgkomphlfaaGreatDoor
open Go.RowKit
open Go.Lib hiding intOf
set_option linter.unusedVariables false

theorem toList_eq (s t : ByteArray) : (s.toList == t.toList) = decide (s = t) := by
  rw [ByteArray.toList_eq, ByteArray.toList_eq]
  by_cases h : s = t
  · subst h; simp
  · have : ¬ L s = L t := fun e => h (L_inj.1 e)
    rw [decide_eq_false h]
    simpa [L] using this
theorem same_one (w : World) (k a n k' a' n' : Int) (s s' : ByteArray) :
    Calls Tryz.prog 24 #[TV k a s n, TV k' a' s' n'] w fun e w' => e = .returned (.bool (sameTok ⟨k, a, s, n⟩ ⟨k', a', s', n'⟩)) ∧ Ext [] w w' := by
  unfold sameTok
  dsimp only
  have hs := toList_eq s s'
  go_enter Tryz.func24, Tryz.ntmps24
  go_wp2
  all_goals go_ret
  all_goals exact ⟨ret_bool (by simp [*]), ((Ext.refl _ _).alloc _).alloc _⟩
theorem sameL_len : ∀ l m : List Tok, l.length ≠ m.length → sameL l m = false
  | [], [], h => absurd rfl h
  | [], y :: m, h => rfl
  | x :: l, [], h => rfl
  | x :: l, y :: m, h => by rw [sameL, sameL_len l m (by simpa using h), Bool.and_false]
set_option maxRecDepth 100000 in
set_option maxHeartbeats 2000000 in
theorem equal_any (w : World) (va vb : Value) (oa ob : Nat) (l m : List Tok) (ha : Ts w va oa l) (hb : Ts w vb ob m) (hl : l.length ≤ 10000) (hm : m.length ≤ 10000) :
    Calls Tryz.prog 23 #[va, vb, .func (.func 24) #[] #[]] w fun e w' => e = .returned (.bool (sameL l m)) ∧ Ext [] w w' := by
  obtain ⟨a, ca, rfl⟩ := ha.shape
  obtain ⟨b, cb, rfl⟩ := hb.shape
  by_cases hlm : l.length = m.length
  · have HL := Lib.hid hlm
    have hne : ((l.length : Int) != (m.length : Int)) = false := by simp; omega
    clear hlm
    go_enter Tryz.func23, Tryz.ntmps23
    go_wp2
    go_loopw [17] (fun i wr => ∃ k : Nat, k ≤ l.length ∧ i = .int .i64 k ∧ Ext [] w wr ∧ Hid (sameL (l.drop k) (m.drop k) = sameL l m)) (fun i _ => l.length - (intOf i).toNat)
    case atStart => exact ⟨0, by omega, rfl, Ext.refl _ _, rfl⟩
    case round =>
      obtain ⟨k, hk, rfl, hX, hS⟩ := hrel
      by_cases hlt : k < l.length
      · obtain ⟨o, K, P, S, U, rfl, hx, c0, c1, c2, c3⟩ := (ha.ext hX (by simp)).at k hlt
        obtain ⟨o', K', P', S', U', rfl, hx', d0, d1, d2, d3⟩ := (hb.ext hX (by simp)).at k (by have := HL.out; omega)
        have hlt2 : k < m.length := by have := HL.out; omega
        have e1 : l.drop k = ⟨K, P, S, U⟩ :: l.drop (k + 1) := by
          rw [List.drop_eq_getElem_cons hlt]
          congr 1
          exact (List.getElem?_eq_some_iff.1 hx).2
        have e2 : m.drop k = ⟨K', P', S', U'⟩ :: m.drop (k + 1) := by
          rw [List.drop_eq_getElem_cons hlt2]
          congr 1
          exact (List.getElem?_eq_some_iff.1 hx').2
        have hE1 := (Ext.refl [] wr).alloc (.cells #[.int .i64 K, .int .i64 P, .string S, .int .u64 U] 29)
        have d0' := hE1.read d0 (by simp)
        have d1' := hE1.read d1 (by simp)
        have d2' := hE1.read d2 (by simp)
        have d3' := hE1.read d3 (by simp)
        have so := fun W => same_one W K P U K' P' U' S S'
        have hE := (hX.alloc (.cells #[.int .i64 K, .int .i64 P, .string S, .int .u64 U] 29)).alloc (.cells #[.int .i64 K', .int .i64 P', .string S', .int .u64 U'] 29)
        cases hc : sameTok ⟨K, P, S, U⟩ ⟨K', P', S', U'⟩
        · have HS : Hid (sameL l m = false) := by show _ = _; rw [← hS.out, e1, e2, sameL, hc, Bool.false_and]
          rw [hc] at so
          clear hc e1 e2 hS hx hx'
          go_wp2_with (go_at_call 24; (with_reducible refine (so _).mono ?_); rintro e w1 ⟨rfl, h1⟩)
          go_ret
          exact ⟨ret_bool HS.out.symm, hE.trans h1⟩
        · have HS : Hid (sameL (l.drop (k + 1)) (m.drop (k + 1)) = sameL l m) := by show _ = _; rw [← hS.out, e1, e2, sameL, hc, Bool.true_and]
          rw [hc] at so
          clear hc e1 e2 hS hx hx'
          go_wp2_with (go_at_call 24; (with_reducible refine (so _).mono ?_); rintro e w1 ⟨rfl, h1⟩)
          go_roundw
          case rel => exact ⟨k + 1, by omega, by go_num, hE.trans h1, HS⟩
          case measure => simp [intOf]; omega
      · have HS : Hid (sameL l m = true) := by show _ = _; rw [← hS.out, List.drop_eq_nil_of_le (by omega), List.drop_eq_nil_of_le (by have := HL.out; omega)]; rfl
        clear hS
        go_wp2
        go_ret
        exact ⟨ret_bool HS.out.symm, hX⟩
  · have HS := Lib.hid (sameL_len l m hlm)
    have hne : ((l.length : Int) != (m.length : Int)) = true := by simp; omega
    go_enter Tryz.func23, Tryz.ntmps23
    go_wp2
    go_ret
    exact ⟨ret_bool HS.out.symm, Ext.refl _ _⟩
theorem Same_any (w : World) (va vb : Value) (oa ob : Nat) (l m : List Tok) (ha : Ts w va oa l) (hb : Ts w vb ob m) (hl : l.length ≤ 10000) (hm : m.length ≤ 10000) :
    Calls Tryz.prog 10 #[va, vb] w fun e w' => e = .returned (.bool (sameL l m)) ∧ Ext [] w w' := by
  have he := equal_any w va vb oa ob l m ha hb hl hm
  go_enter Tryz.func10, Tryz.ntmps10
  go_wp2_with (go_at_call 23; refine he.mono ?_; rintro e w1 ⟨rfl, h1⟩)
  go_ret
  exact ⟨rfl, h1⟩
end Go.Proofs.YtbenfgkomphlfaaGreatDoor
