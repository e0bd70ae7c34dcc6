/-
  The reference: part, Number.
-/
import Derived.Test.YtbenfgkomphlfaaGreatDoorLexRB
import Derived.Test.YtbenfgkomphlfaaGreatDoorLexU
namespace Go.Proofs.YtbenfgkomphlfaaGreatDoor
open Go.RowKit
open Go.Lib hiding intOf
set_option linter.unusedVariables false

def partB (c : UInt8) : Bool := smallB c || digitB c || (decide (65 ≤ (c.toNat : Int)) && decide ((c.toNat : Int) ≤ 90)) || (c == 95)
theorem partB_spans (c : UInt8) : partB c = spans cAlnum c := by
  rw [Bool.eq_iff_iff]
  simp [partB, smallB, digitB, spans, ← UInt8.toNat_inj]
  omega
theorem part_any (w : World) (c : UInt8) : Calls Tryz.prog 30 #[.int .u8 (c.toNat : Int)] w fun e w' => e = .returned (.bool (spans cAlnum c)) ∧ w = w' := by
  rw [← partB_spans]
  unfold partB
  have b := c.toNat_lt
  have sm := fun W => small_any W c
  have dg := fun W => digit_any W c
  have hq : ((c.toNat : Int) == 95) = (c == 95) := by
    rw [Bool.eq_iff_iff]
    simp [← UInt8.toNat_inj]
    omega
  generalize smallB c = p at *
  generalize digitB c = q at *
  generalize (c == 95) = r at *
  cases p <;> cases q <;> cases h1 : decide (65 ≤ (c.toNat : Int)) <;> cases h2 : decide ((c.toNat : Int) ≤ 90) <;> cases r
  all_goals
    go_enter Tryz.func30, Tryz.ntmps30
    go_wp2_with (first
      | (go_at_call 34; refine (sm _).mono ?_; rintro e w1 ⟨rfl, rfl⟩)
      | (go_at_call 35; refine (dg _).mono ?_; rintro e w2 ⟨rfl, rfl⟩))
    go_ret
    exact ⟨rfl, rfl⟩

/-! ## Number -/
/-- the reference's number: what the digits say, a uint64 at a time -/
def numA (acc : Nat) (l : List UInt8) : Nat := l.foldl (fun n c => n * 10 + (c.toNat - 48)) acc
theorem numA_cons (acc : Nat) (c : UInt8) (r : List UInt8) : numA acc (c :: r) = numA (acc * 10 + (c.toNat - 48)) r := List.foldl_cons ..
theorem numA_nil (acc : Nat) : numA acc [] = acc := List.foldl_nil
theorem numA_append (acc : Nat) (a b : List UInt8) : numA acc (a ++ b) = numA (numA acc a) b := List.foldl_append
/-- digits, the first no nought (or the only one): the decimal writing of what they say -/
theorem num_dec : ∀ (r : List UInt8) (m : Nat), 0 < m → r.all digitB = true → decDigits (numA m r) = decDigits m ++ r
  | [], m, _, _ => by rw [numA_nil, List.append_nil]
  | c :: r, m, hm, h => by
    simp only [List.all_cons, Bool.and_eq_true] at h
    have hd : 48 ≤ c.toNat ∧ c.toNat ≤ 57 := by
      have := h.1
      unfold digitB at this
      simp at this
      omega
    rw [numA_cons, num_dec r _ (by omega) h.2]
    have e : decDigits (m * 10 + (c.toNat - 48)) = decDigits m ++ [c] := by
      rw [decDigits, dif_neg (by omega)]
      congr 1
      · congr 1; omega
      · have : (m * 10 + (c.toNat - 48)) % 10 = c.toNat - 48 := by omega
        rw [this]
        congr 1
        rw [← UInt8.toNat_inj, UInt8.toNat_ofNat', Nat.mod_eq_of_lt (by omega)]
        omega
    rw [e, List.append_assoc]
    rfl
theorem num_all {c : UInt8} {r : List UInt8} (h : (c :: r).all digitB = true) (h0 : r = [] ∨ c ≠ 48) : decDigits (numA 0 (c :: r)) = c :: r := by
  simp only [List.all_cons, Bool.and_eq_true] at h
  have hd : 48 ≤ c.toNat ∧ c.toNat ≤ 57 := by
    have := h.1
    unfold digitB at this
    simp at this
    omega
  have e1 : decDigits (c.toNat - 48) = [c] := by
    rw [decDigits_one (by omega)]
    congr 1
    rw [← UInt8.toNat_inj, UInt8.toNat_ofNat', Nat.mod_eq_of_lt (by omega)]
    omega
  rw [numA_cons, Nat.zero_mul, Nat.zero_add]
  rcases h0 with rfl | h0
  · rw [numA_nil]; exact e1
  · have hp : 0 < c.toNat - 48 := by
      have : c.toNat ≠ 48 := fun e => h0 (UInt8.toNat_inj.1 e)
      omega
    rw [num_dec r _ hp h.2, e1]
    rfl
/-- what the reference's Number answers -/
def numR (l : List UInt8) : Option Nat :=
  if l.length < 1 ∨ 19 < l.length ∨ (1 < l.length ∧ l.head? = some 48) then none
  else if l.all digitB = true then (if numA 0 l ≤ 9223372036854775807 then some (numA 0 l) else none)
  else none
theorem numOf_digits {l : List UInt8} {v : Int} (h : numOf l = some v) (hl : l.all (spans cAlnum) = true) : ∃ n : Nat, v = n ∧ n < 9223372036854775808 ∧ l = decDigits n := by
  unfold numOf at h
  split at h
  · rename_i v' hp
    split at h
    · rename_i hi
      obtain rfl : v' = v := by simpa using h
      have hb := parseIntB_bounds hp
      simp at hb
      have h0 : 0 ≤ v' := by
        unfold itoa at hi
        split at hi
        · subst hi
          simp [spans] at hl
        · omega
      refine ⟨v'.toNat, by omega, by omega, ?_⟩
      rw [← hi]
      unfold itoa
      rw [if_neg (by omega)]
    · cases h
  · cases h
theorem num_of_dec (n : Nat) : numA 0 (decDigits n) = n := by
  induction n using Nat.strongRecOn with
  | _ n ih =>
    by_cases h : n < 10
    · rw [decDigits_one h, numA_cons, numA_nil, ofNat_dig n h]
      omega
    · rw [decDigits, dif_neg h, numA_append, ih (n / 10) (by omega), numA_cons, numA_nil, ofNat_dig (n % 10) (by omega)]
      omega
theorem dec_head (n : Nat) (h : 0 < n) : (decDigits n).head? ≠ some 48 := by
  induction n using Nat.strongRecOn with
  | _ n ih =>
    by_cases h1 : n < 10
    · rw [decDigits_one h1]
      intro e
      have e := Option.some.inj (show some (UInt8.ofNat (48 + n)) = some 48 from e)
      have := congrArg UInt8.toNat e
      rw [ofNat_dig n h1] at this
      have h48 : (48 : UInt8).toNat = 48 := rfl
      omega
    · rw [decDigits, dif_neg h1]
      have hne := (dec_digits (n / 10)).2
      have := ih (n / 10) (by omega) (by omega)
      cases he : decDigits (n / 10) with
      | nil => exact absurd he hne
      | cons c r => rw [he] at this; simpa using this
theorem pow_nDigits (u : Nat) (h : 0 < u) : 10 ^ (nDigits u - 1) ≤ u := by
  induction u using Nat.strongRecOn with
  | _ u ih =>
    by_cases h1 : u < 10
    · rw [nDigits_small h1]; exact h
    · rw [nDigits_big h1]
      have h2 := ih (u / 10) (by omega) (by omega)
      have h3 := nDigits_pos (u / 10)
      rw [show nDigits (u / 10) + 1 - 1 = (nDigits (u / 10) - 1) + 1 by omega, Nat.pow_succ]
      omega
theorem nDigits_19 (u : Nat) (h : u < 9223372036854775808) : nDigits u ≤ 19 := by
  rcases Nat.eq_zero_or_pos u with rfl | h0
  · rw [nDigits_small (by decide)]; decide
  · rcases Nat.lt_or_ge (nDigits u) 20 with h1 | h1
    · omega
    · have h2 : 10 ^ 19 ≤ 10 ^ (nDigits u - 1) := Nat.pow_le_pow_right (by decide) (by omega)
      have := pow_nDigits u h0
      omega
theorem num_eq (l : List UInt8) (hl : l.all (spans cAlnum) = true) : numOf l = (numR l).map fun n => (n : Int) := by
  cases h : numOf l with
  | some v =>
    obtain ⟨n, rfl, hn, rfl⟩ := numOf_digits h hl
    have h1 := dec_digits n
    have hlen := decDigits_length n
    have h19 := nDigits_19 n hn
    have hpos := nDigits_pos n
    have hall : (decDigits n).all digitB = true := by
      rw [List.all_eq_true]
      intro c hc
      have := h1.1 c hc
      unfold digitB
      simp
      omega
    unfold numR
    rw [if_neg (by
      rintro (h | h | ⟨h, h2⟩)
      · omega
      · omega
      · refine dec_head n ?_ h2
        rcases Nat.eq_zero_or_pos n with rfl | h0
        · rw [nDigits_small (by decide)] at hlen; omega
        · exact h0), if_pos hall, num_of_dec, if_pos (by omega)]
    rfl
  | none =>
    unfold numR
    split
    · rfl
    · rename_i h1
      split
      · rename_i h2
        split
        · rename_i h3
          exfalso
          cases l with
          | nil => simp at h1
          | cons c r =>
            have hd := num_all h2 (by
              rcases r with _ | ⟨d, r⟩
              · exact .inl rfl
              · refine .inr fun e => h1 (.inr (.inr ⟨by simp, by rw [e]; rfl⟩)))
            have := numOf_dec (numA 0 (c :: r)) (by omega)
            rw [hd, h] at this
            cases this
        · rfl
      · rfl
end Go.Proofs.YtbenfgkomphlfaaGreatDoor
