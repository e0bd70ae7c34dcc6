/-
  Runes of a string whose bytes are beyond ASCII; what such a text begins with.
-/
import Derived.Test.YtbenfgkomphlfaaGreatDoorLexN
import Derived.Lib.OthersKept
import Derived.Lib.RuneCount
namespace Go.Proofs.YtbenfgkomphlfaaGreatDoor
open Go.Lib
set_option linter.unusedVariables false

theorem high_rune (s : ByteArray) (i : Nat) (h : i < s.size) (hh : 128 ≤ (s[i]'h).toNat) : 127 < (Utf8.decode s i).1 ∧ (Utf8.decode s i).1 ≤ 1114111 := by
  have hg : s.get! (i + 0) = s[i]'h := by
    show s.data[i]! = s.data[i]
    exact getElem!_pos s.data i h
  have hb := (s[i]'h).toNat_lt
  unfold Utf8.decode
  simp only [hg]
  rw [if_neg (by omega)]
  split
  · rename_i h2
    split
    · rename_i h3
      have := Nat.mod_lt (s[i]'h).toNat (show 0 < 32 by decide)
      have := Nat.mod_lt (s.get! (i + 1)).toNat (show 0 < 64 by decide)
      constructor
      · show 127 < _; omega
      · show _ ≤ _; omega
    · decide
  · split
    · rename_i h2
      split
      · rename_i h3
        rw [Bool.and_eq_true, decide_eq_true_eq] at h3
        have := Nat.mod_lt (s[i]'h).toNat (show 0 < 16 by decide)
        have := Nat.mod_lt (s.get! (i + 1)).toNat (show 0 < 64 by decide)
        have := Nat.mod_lt (s.get! (i + 2)).toNat (show 0 < 64 by decide)
        have := h3.1
        constructor
        · show 127 < _; omega
        · show _ ≤ _; omega
      · decide
    · split
      · rename_i h2
        split
        · rename_i h3
          rw [Bool.and_eq_true, decide_eq_true_eq] at h3
          have h4 := h3.2
          have h5 := h3.1
          simp only [Utf8.valid, Bool.and_eq_true, Bool.or_eq_true, decide_eq_true_eq] at h4
          constructor
          · show 127 < _; omega
          · show _ ≤ _; omega
        · decide
      · decide
theorem first_high (c : UInt8) (r : List UInt8) (h : 128 ≤ c.toNat) : (first (c :: r)).2 = 0 := by
  have h1 : spans cAlnum c = false := by
    cases hc : spans cAlnum c
    · rfl
    · have := alnum_low c hc; omega
  have h2 : ahead cAlnum (c :: r) = 0 := by unfold ahead; rw [List.takeWhile_cons, h1]; rfl
  have h3 : hasPrefix (c :: r) [39] = false := by
    simp [hasPrefix, List.isPrefixOf]
    intro e
    rw [← e] at h
    simp at h
  have h4 : signOf (c :: r) = [] := by
    obtain ⟨⟨t, ht⟩, h5⟩ := signOf_prefix (c :: r)
    rcases h5 with h5 | h5
    · exact h5
    · exfalso
      have h6 := signs_low _ h5
      cases hg : signOf (c :: r) with
      | nil => rw [hg] at h5; revert h5; decide
      | cons d u =>
        rw [hg] at ht h6
        obtain ⟨rfl, -⟩ : d = c ∧ u ++ t = r := by simpa using ht
        simp [asc] at h6
        omega
  unfold first
  rw [h2, if_neg (by omega), h3, h4]
  rfl
theorem blank_low (c : UInt8) (h : 128 ≤ c.toNat) : spans cBlank c = false := by simp [spans]; omega
end Go.Proofs.YtbenfgkomphlfaaGreatDoor
