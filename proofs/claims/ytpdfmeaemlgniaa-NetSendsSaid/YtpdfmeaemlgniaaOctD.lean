
import Derived.Test.YtpdfmeaemlgniaaOctC
namespace Go.Proofs.Ytpdfmeaemlgniaa
open Go.RowKit
set_option linter.unusedVariables false

/-! ## the document's answer -/

/-- in 64 bits -/
def m64 (n : Int) : Int := n % 18446744073709551616
theorem wrap_m64 (n : Int) : IntKind.u64.wrap n = m64 n := wrap_u64_mod n
theorem m64_add (a b : Int) : m64 (m64 a + m64 b) = m64 (a + b) := by unfold m64; omega
theorem m64_mul (a b : Int) : m64 (m64 a * b) = m64 (a * b) := by unfold m64; simp [Int.mul_emod]
theorem m64_bd (a : Int) : 0 ≤ m64 a ∧ m64 a ≤ 18446744073709551615 := by unfold m64; omega

/-- the first k bytes' share of what l weighs -/
def part (l : List UInt8) (k : Nat) : Int := (weigh l : Int) - weigh (l.drop k)
theorem part_succ (l : List UInt8) (k : Nat) (x : UInt8) (hx : l[k]? = some x) : part l (k + 1) = part l k + x.toNat * 256 ^ (l.length - (k + 1)) := by
  obtain ⟨hk, rfl⟩ := List.getElem?_eq_some_iff.1 hx
  unfold part
  rw [List.drop_eq_getElem_cons hk, weigh]
  simp only [List.length_drop]
  have hc : (((l[k].toNat * 256 ^ (l.length - (k + 1)) + weigh (l.drop (k + 1))) : Nat) : Int) = (l[k].toNat : Int) * 256 ^ (l.length - (k + 1)) + weigh (l.drop (k + 1)) := by
    rw [Int.natCast_add, Int.natCast_mul, Int.natCast_pow]; rfl
  rw [hc]
  omega

theorem be_take_succ (n x k : Nat) (hk : k < n) : (be n x).take (k + 1) = (be n x).take k ++ [UInt8.ofNat (x / 256 ^ (n - 1 - k) % 256)] := by
  rw [List.take_add_one]
  congr 1
  simp [be, hk]
theorem BV_be (x o : Nat) : BV (UInt8.ofNat (x / o % 256)) = .int .u8 ((x : Int) / o % 256) := by
  unfold BV; congr 1
  simp

end Go.Proofs.Ytpdfmeaemlgniaa
