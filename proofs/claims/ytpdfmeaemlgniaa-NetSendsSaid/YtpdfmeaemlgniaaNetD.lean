/-
  Where a parcel is: cmp.Compare, slices.BinarySearchFunc, find.
-/
import Derived.Test.YtpdfmeaemlgniaaNetC
namespace Go.Proofs.Ytpdfmeaemlgniaa
open Go.RowKit
set_option linter.unusedVariables false

theorem isNaN_any (w : World) (k : Int) : Calls Try.prog 85 #[.int .u64 k] w fun e w' => e = .returned (.bool false) ∧ w = w' := by
  go_enter Try.func85, Try.ntmps85
  go_wp2
  go_ret
  exact ⟨ret_bool (by simp), rfl⟩
def cmpN (a b : Nat) : Int := if a < b then -1 else if b < a then 1 else 0
theorem Compare_any (w : World) (a b : Nat) : Calls Try.prog 79 #[.int .u64 (a : Int), .int .u64 (b : Int)] w fun e w' => e = .returned (.int .i64 (cmpN a b)) ∧ w = w' := by
  unfold cmpN
  by_cases h1 : a < b
  · go_enter Try.func79, Try.ntmps79
    go_wp2_with (go_at_call 85; (with_reducible refine (isNaN_any _ _).mono ?_); rintro e w' ⟨rfl, rfl⟩)
    go_ret
    exact ⟨ret_int (by first | rfl | rw [if_pos h1]), rfl⟩
  · by_cases h2 : b < a
    · go_enter Try.func79, Try.ntmps79
      go_wp2_with (go_at_call 85; (with_reducible refine (isNaN_any _ _).mono ?_); rintro e w' ⟨rfl, rfl⟩)
      go_ret
      exact ⟨ret_int (by first | rfl | rw [if_neg (by omega), if_pos h2]), rfl⟩
    · go_enter Try.func79, Try.ntmps79
      go_wp2_with (go_at_call 85; (with_reducible refine (isNaN_any _ _).mono ?_); rintro e w' ⟨rfl, rfl⟩)
      go_ret
      exact ⟨ret_int (by first | rfl | rw [if_neg (by omega), if_neg (by omega)]), rfl⟩
theorem find1_any (w : World) (p : Par) (a : Option Addr) (c k : Nat) : Calls Try.prog 78 #[PV p.num p.fr p.to (.slice a p.bs.length c) p.sp, .int .u64 (k : Int)] w fun e w' => e = .returned (.int .i64 (cmpN p.num k)) ∧ Ext [] w w' := by
  have hE := (Ext.refl [] w).alloc (.cells #[.int .u64 (p.num : Int), .int .i64 p.fr, .int .i64 p.to, .slice a p.bs.length c, .bool p.sp] 33)
  have cC := fun w => Compare_any w p.num k
  generalize cmpN p.num k = C at *
  go_enter Try.func78, Try.ntmps78
  go_wp2_with (go_at_call 79; (with_reducible refine (cC _).mono ?_); rintro e w' ⟨rfl, rfl⟩)
  go_ret
  exact ⟨rfl, hE⟩
/-- where it is, or that it is not there -/
def FoundAt (l : List Par) (k : Nat) (w : World) : Ending → World → Prop := fun e w' =>
  Ext [] w w' ∧ ((∃ (i : Nat) (p : Par), e = .returned (.tuple #[.int .i64 i, .bool true]) ∧ l[i]? = some p ∧ p.num = k ∧ fnd l k = i) ∨ (∃ i : Nat, e = .returned (.tuple #[.int .i64 i, .bool false]) ∧ fnd l k = l.length))
set_option maxHeartbeats 4000000 in
theorem BSF_any (w : World) (v : Value) (l : List Par) (k : Nat) (hP : Ps w v l) (hS : l.Pairwise (fun p q => p.num < q.num)) (hl : l.length ≤ 100000) :
    Calls Try.prog 77 #[v, .int .u64 (k : Int), .func (.func 78) #[] #[]] w (FoundAt l k w) := by
  obtain ⟨a, c, rfl⟩ := hP.shape
  have hS := Lib.hid hS
  go_enter Try.func77, Try.ntmps77
  go_wp2_with (fail)
  go_loopw [9, 10] (fun x y wr => ∃ i j : Nat, x = .int .i64 i ∧ y = .int .i64 j ∧ i ≤ j ∧ j ≤ l.length ∧ Ext [] w wr ∧ Hid ((∀ (t : Nat) p, t < i → l[t]? = some p → p.num < k) ∧ (∀ (t : Nat) p, j ≤ t → l[t]? = some p → k ≤ p.num))) (fun x y _ => (intOf y).toNat - (intOf x).toNat)
  case atStart => exact ⟨0, l.length, rfl, rfl, by omega, by omega, Ext.refl _ _, ⟨fun t p h => by omega, fun t p h hp => by have := (List.getElem?_eq_some_iff.1 hp).1; omega⟩⟩
  case round =>
    obtain ⟨i, j, rfl, rfl, hij, hj, hX, hI⟩ := hrel
    by_cases hlt : i < j
    · go_upto_region 5 with (fail)
      obtain ⟨m, hm, hm1, hm2⟩ : ∃ m : Nat, ((i : Int) + (j : Int)) / 2 = (m : Int) ∧ i ≤ m ∧ m < j := ⟨(i + j) / 2, by omega, by omega, by omega⟩
      rw [hm]
      have HM := Lib.hid hm
      clear hm
      have hp : l[m]? = some (l[m]'(by omega)) := List.getElem?_eq_getElem _
      generalize l[m]'(by omega) = p at *
      obtain ⟨ob, o, b1, d1, rfl, e0, e1, e2, e3, e4, oc, hb⟩ := (hP.ext hX).at m p hp
      have f1 := fun w => find1_any w p b1 d1 k
      have hml : m < l.length := by omega
      by_cases g : p.num < k
      · have hc : cmpN p.num k = -1 := by unfold cmpN; rw [if_pos g]
        rw [hc] at f1
        have HI : Hid ((∀ (t : Nat) p, t < m + 1 → l[t]? = some p → p.num < k) ∧ (∀ (t : Nat) p, j ≤ t → l[t]? = some p → k ≤ p.num)) := by
          refine ⟨fun t q ht hq => ?_, hI.out.2⟩
          have htl := (List.getElem?_eq_some_iff.1 hq)
          have hpl := (List.getElem?_eq_some_iff.1 hp)
          by_cases e : t = m
          · subst e
            rw [hp] at hq
            obtain rfl := Option.some.inj hq
            exact g
          · have := List.pairwise_iff_getElem.1 hS.out t m htl.1 hml (by omega)
            rw [htl.2, hpl.2] at this
            omega
        clear hc hI hp hb
        go_wp2_with (go_at_call 78; (with_reducible refine (f1 _).mono ?_); rintro e w2 ⟨rfl, x3⟩)
        go_roundw
        case rel => exact ⟨m + 1, j, by go_num, rfl, by omega, by omega, hX.trans x3, HI.out⟩
        case measure => simp [intOf]; omega
      · have hc : decide (cmpN p.num k < 0) = false := by
          unfold cmpN
          rw [if_neg g]
          split <;> rfl
        generalize cmpN p.num k = C at *
        have HI : Hid ((∀ (t : Nat) p, t < i → l[t]? = some p → p.num < k) ∧ (∀ (t : Nat) p, m ≤ t → l[t]? = some p → k ≤ p.num)) := by
          refine ⟨hI.out.1, fun t q ht hq => ?_⟩
          have htl := (List.getElem?_eq_some_iff.1 hq)
          have hpl := (List.getElem?_eq_some_iff.1 hp)
          by_cases e : t = m
          · subst e
            rw [hp] at hq
            obtain rfl := Option.some.inj hq
            omega
          · have := List.pairwise_iff_getElem.1 hS.out m t hml htl.1 (by omega)
            rw [htl.2, hpl.2] at this
            omega
        clear hI hp hb
        go_wp2_with (go_at_call 78; (with_reducible refine (f1 _).mono ?_); rintro e w2 ⟨rfl, x3⟩)
        go_roundw
        case rel => exact ⟨i, m, rfl, rfl, by omega, by omega, hX.trans x3, HI.out⟩
        case measure => simp [intOf]; omega
    · obtain rfl : i = j := by omega
      have hf := fnd_of hS.out k i hj hI.out.1 hI.out.2
      by_cases hil : i < l.length
      · have hp : l[i]? = some (l[i]'(by omega)) := List.getElem?_eq_getElem _
        generalize l[i]'(by omega) = p at *
        obtain ⟨ob, o, b1, d1, rfl, e0, e1, e2, e3, e4, oc, hb⟩ := (hP.ext hX).at i p hp
        have f1 := fun w => find1_any w p b1 d1 k
        by_cases g : p.num = k
        · have HF : Hid (fnd l k = i) := by
            rcases hf with ⟨_, _, _, h⟩ | ⟨h, _⟩
            · exact h
            · exact absurd g (h p hp)
          have hc : cmpN p.num k = 0 := by unfold cmpN; rw [g]; simp
          rw [hc] at f1
          have HP := Lib.hid (And.intro hp g)
          clear hc hI hf hp hb g
          go_wp2_with (go_at_call 78; (with_reducible refine (f1 _).mono ?_); rintro e w2 ⟨rfl, x3⟩)
          go_ret2
          exact ⟨hX.trans x3, .inl ⟨i, p, rfl, HP.out.1, HP.out.2, HF.out⟩⟩
        · have HF : Hid (fnd l k = l.length) := by
            rcases hf with ⟨q, h1, h2, _⟩ | ⟨_, h⟩
            · rw [hp] at h1
              exact absurd (by rw [Option.some.inj h1]; exact h2) g
            · exact h
          have hc : (cmpN p.num k == 0) = false := by
            unfold cmpN
            by_cases h1 : p.num < k
            · rw [if_pos h1]; rfl
            · rw [if_neg h1, if_pos (by omega)]; rfl
          generalize cmpN p.num k = C at *
          clear hI hf hp hb g
          go_wp2_with (go_at_call 78; (with_reducible refine (f1 _).mono ?_); rintro e w2 ⟨rfl, x3⟩)
          go_ret2
          exact ⟨hX.trans x3, .inr ⟨i, rfl, HF.out⟩⟩
      · obtain rfl : i = l.length := by omega
        have HF : Hid (fnd l k = l.length) := by
          rcases hf with ⟨q, h1, _⟩ | ⟨_, h⟩
          · have := (List.getElem?_eq_some_iff.1 h1).1; omega
          · exact h
        clear hI hf
        go_wp2_with (fail)
        go_ret2
        exact ⟨hX, .inr ⟨_, rfl, HF.out⟩⟩
set_option maxHeartbeats 1000000 in
theorem find_any (w : World) (s : Nat) (v : Value) (l : List Par) (k : Nat) (hP : Ps w v l) (hS : l.Pairwise (fun p q => p.num < q.num)) (hl : l.length ≤ 100000) :
    Calls Try.prog 72 #[NV s v, .int .u64 (k : Int)] w (FoundAt l k w) := by
  have hE := (Ext.refl [] w).alloc (.cells #[.int .u64 (s : Int), v] 25)
  have cB := fun W x => BSF_any W v l k (hP.ext (w' := W) x) hS hl
  obtain ⟨a, c, rfl⟩ := hP.shape
  clear hP hS
  go_enter Try.func72, Try.ntmps72
  go_wp2_with (go_at_call 77; (with_reducible refine (cB _ hE).mono ?_); rintro e w' ⟨x, ⟨i, p, rfl, j1, j2, j3⟩ | ⟨i, rfl, j1⟩⟩)
  · have HJ := Lib.hid (And.intro j1 (And.intro j2 j3))
    clear j1 j2 j3
    go_wp2_with (fail)
    go_ret2
    exact ⟨hE.trans x, .inl ⟨i, p, rfl, HJ.out⟩⟩
  · have HJ := Lib.hid j1
    clear j1
    go_wp2_with (fail)
    go_ret2
    exact ⟨hE.trans x, .inr ⟨i, rfl, HJ.out⟩⟩
end Go.Proofs.Ytpdfmeaemlgniaa
