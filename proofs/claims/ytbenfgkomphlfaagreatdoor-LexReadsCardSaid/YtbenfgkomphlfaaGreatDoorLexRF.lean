/-
  The reference: Number.
-/
import Derived.Test.YtbenfgkomphlfaaGreatDoorLexRE
namespace Go.Proofs.YtbenfgkomphlfaaGreatDoor
open Go.RowKit
open Go.Lib hiding intOf
set_option linter.unusedVariables false

/-- what Number tells -/
def NumEndR (l : List UInt8) (w : World) (e : Ending) (w' : World) : Prop := (∃ v : Int, e = .returned (.tuple #[.int .u64 v, .bool (numR l).isSome]) ∧ ∀ n, numR l = some n → v = (n : Int)) ∧ w = w'
theorem number_no (w : World) (s : ByteArray) (h : (s.size : Int) < 1 ∨ 19 < (s.size : Int)) : Calls Tryz.prog 31 #[.string s] w (NumEndR (L s) w) := by
  have hN : Hid (numR (L s) = none) := by
    show _ = _
    unfold numR
    rw [if_pos (by rw [← size_L]; omega)]
  by_cases h1 : (s.size : Int) < 1
  · clear h
    go_enter Tryz.func31, Tryz.ntmps31
    go_wp2
    refine bodyPost_ret (v := .tuple #[.int .u64 (0), .bool (false)]) (by simp [results, Tryz.results31, go_sem]) rfl ?_
    exact ⟨⟨0, by rw [hN.out]; rfl, fun n h => by rw [hN.out] at h; cases h⟩, rfl⟩
  · have h2 : 19 < (s.size : Int) := by omega
    clear h
    go_enter Tryz.func31, Tryz.ntmps31
    go_wp2
    refine bodyPost_ret (v := .tuple #[.int .u64 (0), .bool (false)]) (by simp [results, Tryz.results31, go_sem]) rfl ?_
    exact ⟨⟨0, by rw [hN.out]; rfl, fun n h => by rw [hN.out] at h; cases h⟩, rfl⟩
theorem number_nought (w : World) (s : ByteArray) (h1 : 1 < (s.size : Int)) (h2 : (s.size : Int) ≤ 19) (h0 : 0 < s.size) (hc : (s[0]'h0).toNat = 48) : Calls Tryz.prog 31 #[.string s] w (NumEndR (L s) w) := by
  have hN : Hid (numR (L s) = none) := by
    show _ = _
    unfold numR
    rw [if_pos (by
      refine .inr (.inr ⟨by rw [← size_L]; omega, ?_⟩)
      have : L s = (s[0]'h0) :: (L s).drop 1 := List.drop_eq_getElem_cons (l := L s) (i := 0) h0
      rw [this]
      exact congrArg some (UInt8.toNat_inj.1 hc))]
  have q : (((s[0]'h0).toNat : Int) == 48) = true := by simp; omega
  clear hc
  go_enter Tryz.func31, Tryz.ntmps31
  go_wp2
  refine bodyPost_ret (v := .tuple #[.int .u64 (0), .bool (false)]) (by simp [results, Tryz.results31, go_sem]) rfl ?_
  exact ⟨⟨0, by rw [hN.out]; rfl, fun n h => by rw [hN.out] at h; cases h⟩, rfl⟩
theorem numA_lt (l : List UInt8) (h : l.all digitB = true) : numA 0 l < 10 ^ l.length := by
  have gen : ∀ (r : List UInt8) (a b : Nat), a < b → r.all digitB = true → numA a r < b * 10 ^ r.length := by
    intro r
    induction r with
    | nil => intro a b hab _; rw [numA_nil]; simpa using hab
    | cons c r ih =>
      intro a b hab hr
      simp only [List.all_cons, Bool.and_eq_true] at hr
      have hd : 48 ≤ c.toNat ∧ c.toNat ≤ 57 := by
        have := hr.1
        unfold digitB at this
        simp at this
        omega
      rw [numA_cons, List.length_cons, Nat.pow_succ, Nat.mul_comm (10 ^ r.length) 10, ← Nat.mul_assoc]
      exact ih _ _ (by omega) hr.2
  have := gen l 0 1 (by decide) h
  rwa [Nat.one_mul] at this
set_option maxRecDepth 100000 in
set_option maxHeartbeats 2000000 in
theorem number_go (w : World) (s : ByteArray) (h1 : 1 ≤ (s.size : Int)) (h2 : (s.size : Int) ≤ 19) (h0 : 0 < s.size) (hc : (s.size : Int) = 1 ∨ (1 < (s.size : Int) ∧ (s[0]'h0).toNat ≠ 48)) : Calls Tryz.prog 31 #[.string s] w (NumEndR (L s) w) := by
  have hR : Hid (numR (L s) = if (L s).all digitB = true then (if numA 0 (L s) ≤ 9223372036854775807 then some (numA 0 (L s)) else none) else none) := by
    show _ = _
    unfold numR
    rw [if_neg]
    have hL : L s = (s[0]'h0) :: (L s).drop 1 := List.drop_eq_getElem_cons (l := L s) (i := 0) h0
    rintro (h | h | ⟨h, h3⟩)
    · rw [← size_L] at h; omega
    · rw [← size_L] at h; omega
    · rw [← size_L] at h
      rcases hc with hc | ⟨_, hc⟩
      · omega
      · rw [hL] at h3
        exact hc (by rw [Option.some.inj h3]; rfl)
  have hcc : ((s.size : Int) ≤ 1 ∧ (1 : Int) ≤ 1) ∨ (1 < (s.size : Int) ∧ (((s[0]'h0).toNat : Int) == 48) = false) := by
    rcases hc with hc | ⟨h, hc⟩
    · exact .inl ⟨by omega, by omega⟩
    · exact .inr ⟨h, by simp; omega⟩
  clear hc
  rcases hcc with ⟨h3, _⟩ | ⟨h3, q⟩
  all_goals
    go_enter Tryz.func31, Tryz.ntmps31
    go_wp2
    go_loop [4, 5] (fun n i => ∃ k X : Nat, k ≤ s.size ∧ n = .int .u64 X ∧ i = .int .i64 k ∧ Hid (((L s).take k).all digitB = true ∧ X = numA 0 ((L s).take k))) (fun n i => s.size - (intOf i).toNat)
    case atStart => exact ⟨0, 0, by omega, rfl, rfl, by simp [Hid, numA_nil]⟩
    case round =>
      obtain ⟨k, X, hk, rfl, rfl, hK⟩ := hrel
      by_cases hlt : k < s.size
      · have hx : (L s)[k]? = some (s[k]'hlt) := List.getElem?_eq_getElem (show k < (L s).length from hlt)
        have b0 := (s[k]'hlt).toNat_lt
        have dg := fun W => digit_any W (s[k]'hlt)
        have hXb : (X : Int) ≤ 999999999999999999 := by
          have hb := numA_lt _ hK.out.1
          rw [← hK.out.2] at hb
          have hle : ((L s).take k).length ≤ 18 := by rw [List.length_take]; omega
          have := Nat.pow_le_pow_right (n := 10) (by decide) hle
          have e : 10 ^ 18 = 1000000000000000000 := rfl
          omega
        cases hd : digitB (s[k]'hlt)
        · have hN : Hid (numR (L s) = none) := by
            show _ = _
            rw [hR.out, if_neg]
            intro h
            have := List.all_eq_true.1 h _ (List.mem_of_getElem? hx)
            rw [hd] at this
            cases this
          rw [hd] at dg
          clear hx hd hXb
          go_wp2_with (go_at_call 35; refine (dg _).mono ?_; rintro e w1 ⟨rfl, rfl⟩)
          refine bodyPost_ret (v := .tuple #[.int .u64 (0), .bool (false)]) (by simp [results, Tryz.results31, go_sem]) rfl ?_
          exact ⟨⟨0, by rw [hN.out]; rfl, fun n h => by rw [hN.out] at h; cases h⟩, rfl⟩
        · have hcb : (48 : Int) ≤ (s[k]'hlt).toNat ∧ ((s[k]'hlt).toNat : Int) ≤ 57 := by unfold digitB at hd; simpa using hd
          obtain ⟨e1, e2⟩ := hcb
          have hK2 : Hid (((L s).take (k + 1)).all digitB = true ∧ X * 10 + ((s[k]'hlt).toNat - 48) = numA 0 ((L s).take (k + 1))) := by
            rw [List.take_add_one, hx, List.all_append, numA_append, ← hK.out.2, hK.out.1]
            exact ⟨by simp [hd], by simp [numA_cons, numA_nil]⟩
          rw [hd] at dg
          clear hx hd hK
          go_wp2_with (go_at_call 35; refine (dg _).mono ?_; rintro e w1 ⟨rfl, rfl⟩)
          go_round
          case rel => exact ⟨k + 1, X * 10 + ((s[k]'hlt).toNat - 48), by omega, by congr 1; omega, by go_num, hK2⟩
          case measure => simp [intOf]; omega
      · obtain rfl : k = s.size := by omega
        have hK2 := hK.out
        rw [List.take_of_length_le (by rw [← size_L]; omega)] at hK2
        by_cases hm : (X : Int) ≤ 9223372036854775807
        · have hN : Hid (numR (L s) = some X) := by
            show _ = _
            rw [hR.out, if_pos hK2.1, ← hK2.2, if_pos (by omega)]
          clear hK hK2
          go_wp2
          refine bodyPost_ret (v := .tuple #[.int .u64 (X), .bool (true)]) (by simp [results, Tryz.results31, go_sem]) rfl ?_
          exact ⟨⟨X, by rw [hN.out]; rfl, fun n h => by rw [hN.out] at h; cases h; rfl⟩, rfl⟩
        · have hN : Hid (numR (L s) = none) := by
            show _ = _
            rw [hR.out, if_pos hK2.1, ← hK2.2, if_neg (by omega)]
          clear hK hK2
          go_wp2
          refine bodyPost_ret (v := .tuple #[.int .u64 (X), .bool (false)]) (by simp [results, Tryz.results31, go_sem]) rfl ?_
          exact ⟨⟨X, by rw [hN.out]; rfl, fun n h => by rw [hN.out] at h; cases h⟩, rfl⟩
theorem Number_any (w : World) (s : ByteArray) : Calls Tryz.prog 31 #[.string s] w (NumEndR (L s) w) := by
  by_cases h : (s.size : Int) < 1 ∨ 19 < (s.size : Int)
  · exact number_no w s h
  · have h0 : 0 < s.size := by omega
    by_cases hc : 1 < (s.size : Int) ∧ (s[0]'h0).toNat = 48
    · exact number_nought w s hc.1 (by omega) h0 hc.2
    · refine number_go w s (by omega) (by omega) h0 ?_
      by_cases h1 : (s.size : Int) = 1
      · exact .inl h1
      · exact .inr ⟨by omega, fun e => hc ⟨by omega, e⟩⟩
end Go.Proofs.YtbenfgkomphlfaaGreatDoor
