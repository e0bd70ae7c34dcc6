
import Derived.Test.YtdiachkimgkkbaaSumB
namespace Go.Proofs.Ytdiachkimgkkbaa
open Go.RowKit
set_option linter.unusedVariables false

/-! ## the document's answer -/
theorem st_flip (r : Nat) : st (r ^^^ 1) = if r % 2 = 1 then r / 2 else (r / 2) ^^^ poly := by
  unfold st
  rw [xor_half, xor_mod2]
  have : (1 : Nat) / 2 = 0 := rfl
  rw [this, Nat.xor_zero]
  rcases Nat.mod_two_eq_zero_or_one r with h | h <;> simp [h]

theorem ones_sub (r : Nat) (h : r < 4294967296) : ones ^^^ r = 4294967295 - r := by
  refine Nat.eq_of_testBit_eq fun i => ?_
  have e1 : (4294967295 : Nat) - r = 2 ^ 32 - (r + 1) := by omega
  have e2 : ones = 2 ^ 32 - 1 := by decide
  rw [Nat.testBit_xor, e1, Nat.testBit_two_pow_sub_succ h, e2, Nat.testBit_two_pow_sub_one]
  by_cases hi : i < 32
  · simp [hi]
  · have : r.testBit i = false := Nat.testBit_lt_two_pow (Nat.lt_of_lt_of_le h (Nat.pow_le_pow_right (n := 2) (by decide) (show 32 ≤ i by omega)))
    simp [hi, this]

/-- the first k bytes of a number, the lowest first -/
def les (C k : Nat) : List UInt8 := (List.range k).map fun i => UInt8.ofNat (C / 256 ^ i % 256)
theorem les_length (C k : Nat) : (les C k).length = k := by simp [les]
theorem les_succ (C k : Nat) : les C (k + 1) = les C k ++ [UInt8.ofNat (C / 256 ^ k % 256)] := by simp [les, List.range_succ]
theorem les_four (C : Nat) : les C 4 = le4 C := by
  show [UInt8.ofNat (C / 1 % 256), UInt8.ofNat (C / 256 % 256), UInt8.ofNat (C / 65536 % 256), UInt8.ofNat (C / 16777216 % 256)] = _
  rw [Nat.div_one]; rfl

end Go.Proofs.Ytdiachkimgkkbaa
